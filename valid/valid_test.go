package valid_test

import (
	"fmt"
	"slices"
	"strconv"
	"strings"
	"testing"

	"conduit/api"
	"conduit/date"
	"conduit/valid"
)

const (
	early = "Thu, 01 Jan 1970 00:01:40 GMT"
	late  = "Thu, 01 Jan 1970 00:16:40 GMT"
)

// pairs: the fields of names and values by turns.
func pairs(texts ...string) []api.Field {
	var list []api.Field
	for i := 0; i < len(texts); i += 2 {
		list = append(list, api.Field{Name: texts[i], Value: texts[i+1]})
	}
	return list
}

// named: a field of that name for each value.
func named(name string, values ...string) []api.Field {
	var list []api.Field
	for _, value := range values {
		list = append(list, api.Field{Name: name, Value: value})
	}
	return list
}

// ok: a response with status 200 and these fields.
func ok(texts ...string) api.Response {
	return api.Response{Status: 200, Minor: 1, Reason: "OK", Fields: pairs(texts...)}
}

func wantTag(t *testing.T, s, want string, weak bool) {
	t.Helper()
	if got, isWeak, is := valid.Tag(s); got != want || isWeak != weak || !is {
		t.Errorf("Tag(%.300q) = %.300q, %t, %t; want %.300q, %t, true", s, got, isWeak, is, want, weak)
	}
}

func wantNoTag(t *testing.T, s string) {
	t.Helper()
	if got, weak, is := valid.Tag(s); got != "" || weak || is {
		t.Errorf("Tag(%.300q) = %.300q, %t, %t; want nothing, false, false", s, got, weak, is)
	}
}

func wantSame(t *testing.T, a, b string, strong, want bool) {
	t.Helper()
	if got := valid.Same(a, b, strong); got != want {
		t.Errorf("Same(%.300q, %.300q, %t) = %t", a, b, strong, got)
	}
}

func wantAsk(t *testing.T, r api.Response, want ...string) {
	t.Helper()
	if got := valid.Ask(r); !slices.Equal(got, pairs(want...)) {
		t.Errorf("Ask(%.300q) = %.300q; want %.300q", r.Fields, got, want)
	}
}

func wantUnchanged(t *testing.T, ask []api.Field, r api.Response, want bool) {
	t.Helper()
	if got := valid.Unchanged(ask, r); got != want {
		t.Errorf("Unchanged(%.300q, %d with %.300q) = %t", ask, r.Status, r.Fields, got)
	}
}

// shown: how many fields there are, and the beginning of them.
func shown(list []api.Field) string {
	return fmt.Sprintf("%d of %.100q", len(list), list[:min(len(list), 10)])
}

func wantMerge(t *testing.T, stored, update, want []api.Field) {
	t.Helper()
	if got := valid.Merge(stored, update); !slices.Equal(got, want) {
		t.Errorf("Merge(%s, %s) = %s; want %s", shown(stored), shown(update), shown(got), shown(want))
	}
}

// P18.1: Tag

func TestTagOfTheChaptersExample(t *testing.T) {
	wantTag(t, "W/\"a\"", "\"a\"", true)
}

func TestTagOfEntityTags(t *testing.T) {
	for _, part := range []string{
		"\"\"", "\"a\"", "\"A\"", "\"!\"", "\"#\"", "\"~\"", "\"\x80\"", "\"\xff\"", "\"a,b\"", "\",\"", "\"\\\"", "\"\\\\\"", "\"a\\\"", "\"W/\"", "\"w/a\"", "\"*\"", "\"/\"", "\"W\"", "\"\u00e9\u20ac\"", "\"xyzzy-1:2;3=4\"", "\"'()<>@[]{}|`^?\"",
	} {
		wantTag(t, part, part, false)
		wantTag(t, "W/"+part, part, true)
	}
}

func TestTagOfOtherTexts(t *testing.T) {
	for _, s := range []string{
		"", "\"", "W/", "W", "/", "w/", "W/\"", "\"W/", "a", "*", "W/a", "W/*", "w/\"a\"", "w/\"\"", "W\"a\"", "/\"a\"", "W /\"a\"", "W/ \"a\"", "W//\"a\"", "w/W/\"a\"", "W/W/\"a\"", "WW/\"a\"", "V/\"a\"", "X/\"a\"", "W\\\"a\"", "W-\"a\"",
		"\"a", "a\"", "\"a\"\"", "\"\"a\"", "\"\"\"", "\"\"\"\"", "\"a\"b\"", "\"a\\\"b\"", "\"a\"W/", "\"a\", \"b\"", "\"a\",\"b\"", "\"a\",", ",\"a\"", "\"a\"b", "b\"a\"", "\"a\" ", " \"a\"", "\t\"a\"", "\"a\"\t", " W/\"a\"", "W/\"a\" ", "\"a\"\r\n", "\n\"a\"", "\"a\"\x00", "\x00\"a\"", "(\"a\")", "'a'", "\u201ca\u201d", "\xff\"a\"",
		"\"a b\"", "\" \"", "\"\t\"", "\" a\"", "\"a \"", "\"\x00\"", "\"\n\"", "\"a\r\nb\"", "\"\x7f\"", "\"a\x1fb\"", "W/\"a b\"", "W/\"\x7f\"", "W/\"a\"b\"",
	} {
		wantNoTag(t, s)
	}
}

func TestTagOfEachByte(t *testing.T) {
	for i := range 256 {
		c := string([]byte{byte(i)})
		for _, part := range []string{"\"" + c + "\"", "\"a" + c + "b\"", "\"" + c + c + "\"", "\"ab" + c + "\"", "\"" + c + "\xffa\""} {
			if i == 33 || 35 <= i && i <= 126 || 128 <= i {
				wantTag(t, part, part, false)
				wantTag(t, "W/"+part, part, true)
			} else {
				wantNoTag(t, part)
				wantNoTag(t, "W/"+part)
			}
		}
		// Within quotes nearly all bytes stand, around them none.
		wantNoTag(t, c)
		wantNoTag(t, c+"\"a\"")
		wantNoTag(t, "\"a\""+c)
		wantNoTag(t, "W/"+c+"\"a\"")
		wantNoTag(t, c+"W/\"a\"")
		wantNoTag(t, "W"+c+"/\"a\"")
		if i != '"' {
			wantNoTag(t, c+"a\"")
			wantNoTag(t, "\"a"+c)
			wantNoTag(t, "W/"+c+"a\"")
			wantNoTag(t, "W/\"a"+c)
			wantNoTag(t, c+"a"+c)
		}
		if i != 'W' {
			wantNoTag(t, c+"/\"a\"")
		}
		if i != '/' {
			wantNoTag(t, "W"+c+"\"a\"")
		}
	}
}

// P18.2: Same

func TestSameOfTheChaptersExamples(t *testing.T) {
	wantSame(t, "W/\"a\"", "\"a\"", false, true)
	wantSame(t, "W/\"a\"", "\"a\"", true, false)
}

func TestSameOfWeakAndStrongTags(t *testing.T) {
	for _, part := range []string{"\"a\"", "\"\"", "\"a,b\"", "\"\\\"", "\"W/\"", "\"\xff\x80\"", "\"" + strings.Repeat("x", 5000) + "\""} {
		weak := "W/" + part
		wantSame(t, part, part, false, true)
		wantSame(t, part, weak, false, true)
		wantSame(t, weak, part, false, true)
		wantSame(t, weak, weak, false, true)
		wantSame(t, part, part, true, true)
		wantSame(t, part, weak, true, false)
		wantSame(t, weak, part, true, false)
		wantSame(t, weak, weak, true, false)
	}
}

func TestSameOfOtherParts(t *testing.T) {
	parts := []string{"\"\"", "\"a\"", "\"A\"", "\"b\"", "\"aa\"", "\"ab\"", "\"a,\"", "\"W/a\"", "\"/a\"", "\"\\a\"", "\"\xe9\"", "\"\u00e9\"", "\"*\""}
	for i, a := range parts {
		for j, b := range parts {
			for _, strong := range []bool{false, true} {
				wantSame(t, a, b, strong, i == j)
				wantSame(t, "W/"+a, b, strong, i == j && !strong)
				wantSame(t, a, "W/"+b, strong, i == j && !strong)
				wantSame(t, "W/"+a, "W/"+b, strong, i == j && !strong)
			}
		}
	}
}

func TestSameOfTextsThatAreNoTags(t *testing.T) {
	texts := []string{"", "\"", "W/", "W", "*", "a", "W/a", "w/\"a\"", "\"a b\"", "W/\"a b\"", "\"a\"b\"", "\"a\" ", " \"a\"", "\"a", "a\"", "W/W/\"a\"", "W/ \"a\"", "\"\x7f\"", "\"a\"\"a\"", "\"a\",\"a\"", "'a'"}
	for _, a := range texts {
		for _, b := range append(texts, "\"a\"", "W/\"a\"", "\"\"", "\"W/\"", "W/\"\"") {
			for _, strong := range []bool{false, true} {
				wantSame(t, a, b, strong, false)
				wantSame(t, b, a, strong, false)
			}
		}
	}
}

// P18.3: Ask

func TestAskOfEitherField(t *testing.T) {
	wantAsk(t, api.Response{})
	wantAsk(t, ok())
	wantAsk(t, ok("Date", late, "Expires", early, "If-None-Match", "\"a\"", "If-Modified-Since", late, "", "\"a\"", "Tag", "\"a\"", "E-Tag", "\"a\"", "ETag ", "\"a\"", "LastModified", late, "Modified", late))
	for _, tag := range []string{"\"a\"", "W/\"a\"", "\"\"", "W/\"\"", "\"a,b\"", "\"a\\\"", "\"\xe9\""} {
		wantAsk(t, ok("ETag", tag), "If-None-Match", tag)
		wantAsk(t, ok("X", "y", "etag", tag, "Date", late), "If-None-Match", tag)
		wantAsk(t, ok("ETAG", tag, "Last-Modified", late), "If-None-Match", tag, "If-Modified-Since", late)
		wantAsk(t, ok("last-modified", late, "Date", early, "ETag", tag), "If-None-Match", tag, "If-Modified-Since", late)
		wantAsk(t, ok("LAST-MODIFIED", "x", "eTag", tag), "If-None-Match", tag)
	}
	wantAsk(t, ok("Last-Modified", late), "If-Modified-Since", late)
	wantAsk(t, ok("X", "y", "last-modified", early, "Date", late), "If-Modified-Since", early)
}

// The text goes as it stands, in whichever form the date is.
func TestAskOfEachFormOfDate(t *testing.T) {
	for _, text := range []string{
		"Sun, 06 Nov 1994 08:49:37 GMT", "Sunday, 06-Nov-94 08:49:37 GMT", "Sun Nov  6 08:49:37 1994", "Thu, 01 Jan 1970 00:00:00 GMT", "Fri, 31 Dec 9999 23:59:59 GMT", "Tuesday, 31-Dec-69 23:59:59 GMT", "Tue Nov 15 08:49:37 1994",
	} {
		wantAsk(t, ok("Last-Modified", text), "If-Modified-Since", text)
		wantAsk(t, ok("Last-Modified", text, "ETag", "x"), "If-Modified-Since", text)
		wantAsk(t, ok("Last-Modified", text, "ETag", "\"x\""), "If-None-Match", "\"x\"", "If-Modified-Since", text)
	}
}

func TestAskOfWhatIsNoTagAndNoDate(t *testing.T) {
	for _, tag := range []string{"", "a", "*", "\"", "w/\"a\"", "W/a", "\"a b\"", "\"a\" ", " \"a\"", "\"a\", \"b\"", "\"a\"b\"", "W/"} {
		wantAsk(t, ok("ETag", tag))
		wantAsk(t, ok("ETag", tag, "Last-Modified", late), "If-Modified-Since", late)
	}
	for _, text := range []string{
		"", "0", "x", "\"a\"", "Mon, 06 Nov 1994 08:49:37 GMT", "Sun, 06 Nov 1994 08:49:37", "Sun, 06 Nov 1994 08:49:37 UTC", "Sun, 06 Nov 1994 08:49:60 GMT", "Sun, 31 Feb 1994 08:49:37 GMT", "sun, 06 nov 1994 08:49:37 gmt", " " + late, late + " ", late + ",", "Wed, 31 Dec 1969 23:59:59 GMT", "1000",
	} {
		wantAsk(t, ok("Last-Modified", text))
		wantAsk(t, ok("Last-Modified", text, "ETag", "\"a\""), "If-None-Match", "\"a\"")
	}
	wantAsk(t, ok("Last-Modified", "\"a\"", "ETag", late))
}

// A field that stands twice has its values as one text, with a comma and a blank between; that is no tag, and seldom a date.
func TestAskOfFieldsThatStandTwice(t *testing.T) {
	wantAsk(t, ok("ETag", "\"a\"", "ETag", "\"a\""))
	wantAsk(t, ok("ETag", "\"a\"", "etag", ""))
	wantAsk(t, ok("ETag", "", "etag", "\"a\""))
	wantAsk(t, ok("ETag", "\"a", "ETag", "b\""))
	wantAsk(t, ok("ETag", "\"a\"", "Last-Modified", late, "ETag", "\"b\""), "If-Modified-Since", late)
	wantAsk(t, ok("Last-Modified", late, "Last-Modified", late))
	wantAsk(t, ok("Last-Modified", late, "last-modified", ""))
	wantAsk(t, ok("Last-Modified", "", "ETag", "\"a\"", "Last-Modified", late), "If-None-Match", "\"a\"")
	wantAsk(t, ok("Last-Modified", "Thu", "last-modified", "01 Jan 1970 00:16:40 GMT"), "If-Modified-Since", late)
	wantAsk(t, ok("Last-Modified", "01 Jan 1970 00:16:40 GMT", "last-modified", "Thu"))
	wantAsk(t, ok("LAST-MODIFIED", "Sunday", "X", "y", "last-modified", "06-Nov-94 08:49:37 GMT"), "If-Modified-Since", "Sunday, 06-Nov-94 08:49:37 GMT")
}

func TestAskHangsOnTheFieldsAlone(t *testing.T) {
	for status := -1; status <= 600; status++ {
		r := api.Response{Status: status, Minor: status - 5, Reason: "\"b\"", Fields: pairs("ETag", "\"a\"", "Last-Modified", early)}
		wantAsk(t, r, "If-None-Match", "\"a\"", "If-Modified-Since", early)
	}
}

// P18.4: Unchanged

func TestUnchangedOfTheChaptersExample(t *testing.T) {
	wantUnchanged(t, named("If-None-Match", "\"x\", \"a\""), ok("ETag", "W/\"a\""), true)
}

func TestUnchangedOfEachStatus(t *testing.T) {
	asks := [][]api.Field{
		pairs("If-None-Match", "*"), pairs("If-None-Match", "\"a\""), pairs("If-Modified-Since", late), pairs("If-None-Match", "W/\"a\"", "If-Modified-Since", late),
	}
	for status := -700; status <= 1400; status++ {
		r := ok("ETag", "\"a\"", "Last-Modified", late)
		r.Status, r.Minor, r.Reason = status, status+7, "200"
		for _, ask := range asks {
			wantUnchanged(t, ask, r, status == 200)
		}
		wantUnchanged(t, nil, r, false)
	}
	for _, status := range []int{1 << 62, -1 << 63, 1<<63 - 1, 200 + 1<<32, 200 + 1<<16, 200 + 1<<8} {
		wantUnchanged(t, asks[0], api.Response{Status: status}, false)
	}
}

func TestUnchangedOfNoQuestion(t *testing.T) {
	for _, ask := range [][]api.Field{
		nil, {}, pairs("If-None-Match", "*")[:0], pairs("", "*"), pairs("ETag", "\"a\"", "Last-Modified", late), pairs("If-Match", "*", "If-Range", "\"a\"", "If-Unmodified-Since", late, "If-None-Match ", "*", " If-None-Match", "*", "None-Match", "*", "If-None-Matches", "*", "If-Modified-Sinc", late, "If-Modified-Since ", late),
	} {
		wantUnchanged(t, ask, ok("ETag", "\"a\"", "Last-Modified", late), false)
		wantUnchanged(t, ask, ok(), false)
	}
}

func TestUnchangedOfAnything(t *testing.T) {
	for _, value := range []string{"*", " *", "*\t", "*,", ",*", " , * ,", "*,*", "*, \"x\"", "\"x\", *", "x,*", "\"a,b\",*", "\"x\\\",\",*"} {
		for _, r := range []api.Response{ok(), ok("ETag", "\"a\""), ok("ETag", ""), ok("ETag", "a"), ok("ETag", "*"), ok("ETag", "\"a\"", "ETag", "\"b\""), ok("Last-Modified", "x"), {Status: 200}} {
			wantUnchanged(t, named("If-None-Match", value), r, true)
			wantUnchanged(t, named("if-none-match", "\"x\"", value), r, true)
			wantUnchanged(t, named("IF-NONE-MATCH", value, "", "\"x\""), r, true)
			wantUnchanged(t, pairs("If-None-Match", value, "If-Modified-Since", "x"), r, true)
		}
	}
	for _, value := range []string{"\"*\"", "**", "*x", "x*", "* *", "W/*", "\"*", "*\"\"", "\"x, *\"", "\"x, *", "\\*", "'*'", "*;q", "\u2217"} {
		wantUnchanged(t, named("If-None-Match", value), ok("ETag", "\"a\""), false)
		wantUnchanged(t, named("If-None-Match", value), ok("ETag", "*"), false)
		wantUnchanged(t, named("If-None-Match", value), ok(), false)
	}
	wantUnchanged(t, named("If-None-Match", "\"*\""), ok("ETag", "\"*\""), true)
	wantUnchanged(t, named("If-None-Match", "*"), ok("ETag", "\"*\""), true)
}

func TestUnchangedOfTags(t *testing.T) {
	for _, value := range []string{
		"\"a\"", "W/\"a\"", " \"a\" ", "\tW/\"a\"\t", "\"a\",", ",\"a\"", ",, \"a\" ,,", "\"x\", \"a\"", "\"a\", \"x\"", "\"x\",W/\"y\",W/\"a\",\"z\"", "\"a\",\"a\"", "x, \"a\"", "\"b c\", \"a\"", "\"\",\"a\"", "\"b,c\",\"a\"", "\"b\\\\\",\"a\"",
	} {
		for _, tag := range []string{"\"a\"", "W/\"a\""} {
			wantUnchanged(t, named("If-None-Match", value), ok("ETag", tag), true)
			wantUnchanged(t, named("IF-none-MATCH", value), ok("X", "y", "etag", tag), true)
			wantUnchanged(t, named("If-None-Match", "\"x\"", value), ok("ETag", tag), true)
			wantUnchanged(t, named("If-None-Match", value, "\"x\""), ok("ETag", tag), true)
			wantUnchanged(t, pairs("If-None-Match", "", "X", "y", "if-none-match", value, "If-None-Match", "z"), ok("ETag", tag), true)
			wantUnchanged(t, named("If-None-Match", value), ok("ETag", tag[:len(tag)-1]), false)
			wantUnchanged(t, named("If-None-Match", value), ok("ETag", strings.Replace(tag, "a", "A", 1)), false)
			wantUnchanged(t, named("If-None-Match", value), ok("ETag", strings.Replace(tag, "a", "ab", 1)), false)
			wantUnchanged(t, named("If-None-Match", value), ok("ETag", tag, "ETag", tag), false)
		}
		wantUnchanged(t, named("If-None-Match", value), ok(), false)
		wantUnchanged(t, named("If-None-Match", value), ok("ETag", ""), false)
		wantUnchanged(t, named("If-None-Match", value), ok("ETag", "a"), false)
		wantUnchanged(t, named("If-None-Match", value), ok("ETag", "w/\"a\""), false)
		wantUnchanged(t, named("If-None-Match", value), ok("ETag", " \"a\""), false)
		wantUnchanged(t, named("If-None-Match", value), ok("If-None-Match", "\"a\"", "Tag", "\"a\""), false)
	}
	for _, value := range []string{"\"A\"", "\"x\"", "\"\"", "a", "'a'", "w/\"a\"", "W/ \"a\"", "\"a\" \"a\"", "\"a\"x", "x\"a\"", "\"a\";q", "\"a", "a\"", "\" a\"", "\"x,\"a\"", "\"x\\\",\"a\"", "\"x, \"a\", y\"", "W/W/\"a\"", "(\"a\")"} {
		wantUnchanged(t, named("If-None-Match", value), ok("ETag", "\"a\""), false)
		wantUnchanged(t, named("If-None-Match", value, value), ok("ETag", "W/\"a\""), false)
	}
}

// Texts that are no entity tags aren't the same, even where they are byte for byte.
func TestUnchangedOfWhatIsNoTag(t *testing.T) {
	for _, tag := range []string{"a", "\"a b\"", "w/\"a\"", "W/", "W/a", "\"", "\"a\"x", "\"\x7f\"", "**", "\"a\\\"b\""} {
		wantUnchanged(t, named("If-None-Match", tag), ok("ETag", tag), false)
		wantUnchanged(t, named("If-None-Match", tag, ""), ok("ETag", tag), false)
	}
}

func TestUnchangedOfCommasWithinQuotes(t *testing.T) {
	for _, value := range []string{"\"a,b\"", "W/\"a,b\"", "\"x\",\"a,b\"", "\"a,b\" , \"x\"", "\"x,\", \"a,b\""} {
		wantUnchanged(t, named("If-None-Match", value), ok("ETag", "\"a,b\""), true)
		wantUnchanged(t, named("If-None-Match", value), ok("ETag", "W/\"a,b\""), true)
		wantUnchanged(t, named("If-None-Match", value), ok("ETag", "\"a\""), false)
		wantUnchanged(t, named("If-None-Match", value), ok("ETag", "\"b\""), false)
	}
	wantUnchanged(t, named("If-None-Match", "\"a", "b\""), ok("ETag", "\"a,b\""), false)
	wantUnchanged(t, named("If-None-Match", "\"a", "b\""), ok("ETag", "\"a, b\""), false)
	wantUnchanged(t, named("If-None-Match", ",\",\","), ok("ETag", "\",\""), true)
	// A quoted stretch that doesn't end reaches to its own value's end alone.
	wantUnchanged(t, named("If-None-Match", "\"x", "\"a\""), ok("ETag", "\"a\""), true)
	wantUnchanged(t, named("If-None-Match", "\"x", "*"), ok(), true)
	wantUnchanged(t, named("If-None-Match", "\"x\\", "\"a\""), ok("ETag", "\"a\""), true)
	// A byte 92 passes over the quote behind it, by the layer that cuts lists, but has no such meaning in a tag.
	wantUnchanged(t, named("If-None-Match", "\"a\\\", \"b\""), ok("ETag", "\"b\""), false)
	wantUnchanged(t, named("If-None-Match", "\"a\\\", \"b\""), ok("ETag", "\"a\\\""), false)
	wantUnchanged(t, named("If-None-Match", "\"a\\\""), ok("ETag", "\"a\\\""), true)
	wantUnchanged(t, named("If-None-Match", "\"b\", \"a\\\""), ok("ETag", "\"a\\\""), true)
}

func TestUnchangedOfDates(t *testing.T) {
	since := 784111777
	for _, by := range []int{-784111777, -86400, -2, -1, 0, 1, 2, 86400} {
		modified, errno := date.Show(since + by)
		if errno != api.OK {
			t.Fatal(errno)
		}
		for _, text := range []string{"Sun, 06 Nov 1994 08:49:37 GMT", "Sunday, 06-Nov-94 08:49:37 GMT", "Sun Nov  6 08:49:37 1994"} {
			wantUnchanged(t, pairs("If-Modified-Since", text), ok("Last-Modified", modified), by <= 0)
			wantUnchanged(t, pairs("X", "y", "IF-MODIFIED-since", text), ok("ETag", "\"a\"", "last-modified", modified), by <= 0)
			wantUnchanged(t, pairs("If-Modified-Since", modified), ok("Last-Modified", text), by >= 0)
		}
	}
	for _, text := range []string{"Thu, 01 Jan 1970 00:00:00 GMT", "Fri, 31 Dec 9999 23:59:59 GMT"} {
		wantUnchanged(t, pairs("If-Modified-Since", text), ok("Last-Modified", text), true)
	}
	wantUnchanged(t, pairs("If-Modified-Since", "Thu, 01 Jan 1970 00:00:00 GMT"), ok("Last-Modified", "Fri, 31 Dec 9999 23:59:59 GMT"), false)
	wantUnchanged(t, pairs("If-Modified-Since", "Fri, 31 Dec 9999 23:59:59 GMT"), ok("Last-Modified", "Thu, 01 Jan 1970 00:00:00 GMT"), true)
}

func TestUnchangedOfDatesThatAreNotRead(t *testing.T) {
	first := "Thu, 01 Jan 1970 00:00:00 GMT"
	for _, text := range []string{"", "0", "x", "*", "\"a\"", "Fri, 01 Jan 1970 00:00:00 GMT", "Wed, 31 Dec 1969 23:59:59 GMT", "Thu, 01 Jan 1970 00:00:00", " " + first, first + " ", first + ", " + first, strings.ToLower(first)} {
		wantUnchanged(t, pairs("If-Modified-Since", text), ok("Last-Modified", first), false)
		wantUnchanged(t, pairs("If-Modified-Since", text), ok("Last-Modified", text), false)
		wantUnchanged(t, pairs("If-Modified-Since", text), ok(), false)
		wantUnchanged(t, pairs("If-Modified-Since", first), ok("Last-Modified", text), false)
		wantUnchanged(t, pairs("If-Modified-Since", late), ok("Last-Modified", text, "ETag", "\"a\"", "Date", first), false)
		wantUnchanged(t, pairs("If-Modified-Since", text), ok("Last-Modified", first, "ETag", text), false)
	}
	for _, r := range []api.Response{ok(), ok("Date", early), ok("ETag", "\"a\""), ok("LastModified", early)} {
		wantUnchanged(t, pairs("If-Modified-Since", late), r, false)
		wantUnchanged(t, pairs("If-Modified-Since", first), r, false)
	}
}

// A field that stands twice has its values as one text.
func TestUnchangedOfDatesThatStandTwice(t *testing.T) {
	wantUnchanged(t, named("If-Modified-Since", late, late), ok("Last-Modified", early), false)
	wantUnchanged(t, named("If-Modified-Since", late, ""), ok("Last-Modified", early), false)
	wantUnchanged(t, named("If-Modified-Since", late), ok("Last-Modified", early, "last-modified", early), false)
	wantUnchanged(t, named("If-Modified-Since", late), ok("Last-Modified", "", "last-modified", early), false)
	wantUnchanged(t, named("If-Modified-Since", "Thu", "01 Jan 1970 00:16:40 GMT"), ok("Last-Modified", early), true)
	wantUnchanged(t, named("If-Modified-Since", late), ok("Last-Modified", "Thu", "X", "y", "LAST-MODIFIED", "01 Jan 1970 00:16:40 GMT"), true)
	wantUnchanged(t, named("If-Modified-Since", early), ok("Last-Modified", "Thu", "X", "y", "LAST-MODIFIED", "01 Jan 1970 00:16:40 GMT"), false)
}

// Where there is an If-None-Match, even without an element, the dates make no difference.
func TestUnchangedOfBothFields(t *testing.T) {
	told := []string{"ETag", "\"a\"", "Last-Modified", late}
	for _, since := range []string{early, late, "x", "", "Fri, 31 Dec 9999 23:59:59 GMT"} {
		wantUnchanged(t, pairs("If-None-Match", "\"a\"", "If-Modified-Since", since), ok(told...), true)
		wantUnchanged(t, pairs("If-Modified-Since", since, "If-None-Match", "W/\"a\""), ok(told...), true)
		for _, value := range []string{"\"x\"", "", " ", ",", ",,\t,", "x", "W/", "\"a", "\"x\", \"y\""} {
			wantUnchanged(t, pairs("If-None-Match", value, "If-Modified-Since", since), ok(told...), false)
			wantUnchanged(t, pairs("If-Modified-Since", since, "if-none-match", value), ok(told...), false)
			wantUnchanged(t, pairs("IF-NONE-MATCH", value, "If-Modified-Since", since, "If-None-Match", value), ok(told[2:]...), false)
		}
	}
	wantUnchanged(t, pairs("If-None-Match", ""), ok(), false)
	wantUnchanged(t, pairs("If-None-Match", ""), ok("ETag", ""), false)
	wantUnchanged(t, pairs("If-None-Match", "", "If-None-Match", "\"a\""), ok(told...), true)
}

// P18.5: Merge

func TestMergeOfTheChaptersExample(t *testing.T) {
	wantMerge(t, pairs("A", "1", "B", "2"), pairs("b", "3", "Content-Length", "9"), pairs("A", "1", "b", "3"))
}

func TestMergeOfNoFields(t *testing.T) {
	some := pairs("A", "1", "", "2", "a", "", "\xff", "\x00", "Content-Length", "3")
	for _, none := range [][]api.Field{nil, {}, pairs("A", "9")[:0]} {
		wantMerge(t, none, none, nil)
		wantMerge(t, some, none, some)
		wantMerge(t, none, some, some[:4])
		wantMerge(t, none, some[4:], nil)
	}
}

func TestMergeOfNamesInUnlikeLetters(t *testing.T) {
	for _, name := range []string{"ETAG", "etag", "ETag", "eTaG"} {
		for _, other := range []string{"ETAG", "etag", "Etag", "EtAg"} {
			wantMerge(t, pairs("A", "1", name, "2", "B", "3"), pairs(other, "4"), pairs("A", "1", "B", "3", other, "4"))
		}
		for _, other := range []string{"ETa", "Tag", "ETags", "E-Tag", "ETag ", " ETag", "", "ET\u0430g", "\x05tag", "ETag\x00", "*"} {
			wantMerge(t, pairs(name, "2", "B", "3"), pairs(other, "4"), pairs(name, "2", "B", "3", other, "4"))
		}
	}
	wantMerge(t, pairs("", "1", "A", "2", "", "3"), pairs("", "4"), pairs("A", "2", "", "4"))
	wantMerge(t, pairs("a b", "1", "A:", "2", "\xc4", "3", "\xe4", "4"), pairs("A B", "5", "\xe4", "6", "a:", ""), pairs("\xc4", "3", "A B", "5", "\xe4", "6", "a:", ""))
}

func TestMergeOfEachByteInNames(t *testing.T) {
	for one := range 256 {
		for other := range 256 {
			stored, update := pairs(string([]byte{'n', byte(one)}), "1", "x", "2"), pairs(string([]byte{'N', byte(other)}), "3")
			want := slices.Concat(stored, update)
			if one == other || one < 128 && other < 128 && letter(one) && letter(other) && one|32 == other|32 {
				want = want[1:]
			}
			wantMerge(t, stored, update, want)
		}
	}
}

func letter(c int) bool {
	return 'a' <= c|32 && c|32 <= 'z'
}

// All fields of a name go, and all of the news come, each side in its order.
func TestMergeOfNamesThatStandSeveralTimes(t *testing.T) {
	wantMerge(t, pairs("B", "1", "A", "2", "b", "3", "C", "4", "B", "5", "a", "6"), pairs("B", "7"), pairs("A", "2", "C", "4", "a", "6", "B", "7"))
	wantMerge(t, pairs("A", "1", "B", "2", "C", "3"), pairs("b", "4", "B", "5", "b", "4"), pairs("A", "1", "C", "3", "b", "4", "B", "5", "b", "4"))
	wantMerge(t, pairs("A", "1", "A", "1", "B", "2"), pairs("C", "3", "A", "4", "C", "3", "a", "5"), pairs("B", "2", "C", "3", "A", "4", "C", "3", "a", "5"))
	wantMerge(t, pairs("A", "1", "A", "1"), pairs("B", "1", "B", "1"), pairs("A", "1", "A", "1", "B", "1", "B", "1"))
	wantMerge(t, pairs("A", "1", "B", "2", "A", "3"), pairs("B", "", "A", ""), pairs("B", "", "A", ""))
	// The same field on both sides goes behind, too.
	wantMerge(t, pairs("A", "1", "B", "2"), pairs("A", "1"), pairs("B", "2", "A", "1"))
}

func TestMergeOfNamesThatAreNoNews(t *testing.T) {
	names := []string{"Content-Length", "Content-Range", "Transfer-Encoding", "Connection"}
	stored := pairs("content-length", "1", "A", "2", "Content-Range", "3", "TRANSFER-ENCODING", "4", "connection", "5", "CONTENT-LENGTH", "6")
	for _, name := range names {
		for _, form := range []string{name, strings.ToLower(name), strings.ToUpper(name)} {
			wantMerge(t, stored, pairs(form, "9"), stored)
			wantMerge(t, stored, pairs(form, "9", "B", "8", form, "7"), append(slices.Clone(stored), pairs("B", "8")...))
			wantMerge(t, stored, pairs("B", "8", form, "9", "a", "7"), append(slices.Concat(stored[:1], stored[2:]), pairs("B", "8", "a", "7")...))
			wantMerge(t, nil, pairs(form, "9"), nil)
		}
		for _, form := range []string{name + " ", name[1:], name[:len(name)-1], name + "s", strings.ReplaceAll(name, "-", ""), "X-" + name, strings.ReplaceAll(name, "-", "_")} {
			if form != name {
				wantMerge(t, pairs("A", "1", form, "2"), pairs(form, "9"), pairs("A", "1", form, "9"))
			}
		}
	}
	// Others that tell of a message's body or of one connection are news as any.
	for _, name := range []string{"Content-Type", "Content-Encoding", "Content-Location", "Content-MD5", "Keep-Alive", "Proxy-Connection", "Te", "Trailer", "Upgrade", "Date", "ETag", "Age", "Via", "Vary", "Content", "Range", "Transfer", "Encoding", "Length"} {
		wantMerge(t, pairs(name, "1", "A", "2"), pairs(strings.ToLower(name), "3", "Connection", name), pairs("A", "2", strings.ToLower(name), "3"))
	}
}

// many: fields of names that stand nowhere else.
func many(n int, prefix string) []api.Field {
	var list []api.Field
	for i := range n {
		list = append(list, api.Field{Name: prefix + strconv.Itoa(i), Value: prefix})
	}
	return list
}

func TestMergeOfJustFieldCapAndOneMore(t *testing.T) {
	for all := 98; all <= 102; all++ {
		for news := range all + 1 {
			stored, update := many(all-news, "s"), many(news, "u")
			// Fields that go, and such as are no news, don't count.
			going := append(many(news, "U"), stored...)
			more := slices.Concat(named("Content-Length", "1", "2"), update, named("connection", "3"))
			want, wantGoing := stored, going
			if all <= 100 {
				want = slices.Concat(stored, update)
				wantGoing = want
			}
			wantMerge(t, stored, update, want)
			wantMerge(t, stored, more, want)
			wantMerge(t, going, update, wantGoing)
			wantMerge(t, going, more, wantGoing)
		}
	}
}

// Where the stored fields stay, all of them do, however many they are, those of the news' names too.
func TestMergeOfStoredFieldsAboveFieldCap(t *testing.T) {
	stored := append(many(150, "s"), pairs("A", "1", "Content-Length", "2", "A", "3")...)
	for _, update := range [][]api.Field{nil, pairs("A", "9"), pairs("Connection", "9", "Content-Length", "9"), many(150, "S"), many(101, "u"), many(50, "u"), named("s7", slices.Repeat([]string{"x"}, 101)...)} {
		wantMerge(t, stored, update, stored)
		wantMerge(t, stored[:101], update[:min(len(update), 1)], stored[:101])
	}
	wantMerge(t, nil, many(100, "u"), many(100, "u"))
	wantMerge(t, nil, many(101, "u"), nil)
	wantMerge(t, pairs("A", "1"), many(101, "u"), pairs("A", "1"))
	wantMerge(t, pairs("u7", "1"), many(101, "u"), pairs("u7", "1"))
	// Above the cap by itself, but not when the fields of the news' names are gone.
	wantMerge(t, many(150, "s"), many(100, "S")[:99], many(150, "s"))
	wantMerge(t, many(100, "s"), many(100, "S"), many(100, "S"))
	wantMerge(t, many(101, "s"), many(100, "S"), many(101, "s"))
	repeated := slices.Repeat(pairs("A", "1"), 200)
	wantMerge(t, repeated, pairs("a", "2"), pairs("a", "2"))
	wantMerge(t, slices.Concat(many(50, "s"), repeated, many(49, "t")), pairs("a", "2"), slices.Concat(many(50, "s"), many(49, "t"), pairs("a", "2")))
	wantMerge(t, slices.Concat(many(50, "s"), repeated, many(50, "t")), pairs("a", "2"), slices.Concat(many(50, "s"), repeated, many(50, "t")))
}

// P1 and P2: calls end, and answer the same for the same

func TestLongLists(t *testing.T) {
	const count = 1000000
	long := "\"" + strings.Repeat("a", count) + "\""
	wantTag(t, long, long, false)
	wantTag(t, "W/"+long, long, true)
	wantNoTag(t, long[:count])
	wantNoTag(t, strings.Repeat("W/", count))
	wantNoTag(t, strings.Repeat("\"", count))
	wantSame(t, "W/"+long, long, false, true)
	wantSame(t, long, long, true, true)
	wantAsk(t, ok("ETag", long, "Last-Modified", strings.Repeat(late, 1000)), "If-None-Match", long)
	wantAsk(t, api.Response{Fields: append(many(count, "s"), pairs("ETag", "\"a\"", "Last-Modified", late)...)}, "If-None-Match", "\"a\"", "If-Modified-Since", late)
	wantAsk(t, api.Response{Fields: named("ETag", slices.Repeat([]string{"\"a\""}, 100000)...)})

	// Many elements, and a tag as long as they all are.
	tags := strings.Repeat("\"b\",", count)
	wantUnchanged(t, named("If-None-Match", tags), ok("ETag", long), false)
	wantUnchanged(t, named("If-None-Match", tags+"W/"+long), ok("ETag", long), true)
	wantUnchanged(t, named("If-None-Match", strings.Split(tags, ",")...), ok("ETag", long), false)
	wantUnchanged(t, named("If-None-Match", strings.Repeat(",", count)), ok("ETag", long), false)
	wantUnchanged(t, named("If-None-Match", strings.Repeat("W/", count)), ok("ETag", strings.Repeat("W/", count)), false)
	wantUnchanged(t, append(named("If-Modified-Since", late), many(count, "s")...), api.Response{Status: 200, Fields: append(many(count, "s"), pairs("Last-Modified", early)...)}, true)

	wantMerge(t, many(100000, "s"), many(100000, "s"), many(100000, "s"))
	wantMerge(t, many(100000, "s"), many(100000, "S")[:99], many(100000, "s"))
	wantMerge(t, slices.Repeat(pairs("A", "1"), count), pairs("a", "2"), pairs("a", "2"))
	wantMerge(t, pairs("A", "1"), slices.Repeat(pairs("content-length", "2"), count), pairs("A", "1"))
	wantMerge(t, pairs("A", "1"), slices.Repeat(pairs("a", "2"), count), pairs("A", "1"))
}

func TestCallsAnswerTheSameTwice(t *testing.T) {
	r := ok("ETag", "W/\"a\"", "Last-Modified", late)
	for range 3 {
		wantTag(t, "W/\"a\"", "\"a\"", true)
		wantSame(t, "\"a\"", "W/\"a\"", false, true)
		wantAsk(t, r, "If-None-Match", "W/\"a\"", "If-Modified-Since", late)
		wantUnchanged(t, pairs("If-None-Match", "\"a\""), r, true)
		wantMerge(t, pairs("A", "1", "B", "2"), pairs("a", "3"), pairs("B", "2", "a", "3"))
		// Other calls between leave nothing that a later one could tell.
		wantNoTag(t, "W/\"a")
		wantAsk(t, ok())
		wantUnchanged(t, pairs("If-None-Match", "\"b\""), r, false)
		wantMerge(t, pairs("A", "1"), many(101, "u"), pairs("A", "1"))
	}
}
