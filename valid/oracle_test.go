package valid_test

import (
	"math/rand"
	"regexp"
	"slices"
	"strings"
	"testing"
	"time"

	"conduit/api"
	"conduit/valid"
)

// A second reading of the chapter, by patterns and a calendar of another kind instead of the layers below; all texts are taken byte by byte.
var (
	aTag      = regexp.MustCompile(`^(W/)?("[\x21\x23-\x7e\x{80}-\x{ff}]*")\z`)
	anElement = regexp.MustCompile(`^(?:[^,"]|"(?:[^"\\]|\\[\x00-\x{ff}])*(?:"|\\?$))*`)
	noNews    = regexp.MustCompile(`^(?:content-length|content-range|transfer-encoding|connection)\z`)
)

// runes: the bytes of a text as runes, so that a pattern sees each one by itself.
func runes(s string) string {
	var b strings.Builder
	for i := range len(s) {
		b.WriteRune(rune(s[i]))
	}
	return b.String()
}

// plain: the text whose bytes these runes are.
func plain(s string) string {
	var b []byte
	for _, r := range s {
		b = append(b, byte(r))
	}
	return string(b)
}

// small: a text's bytes as runes in small letters, of which A to Z alone have one.
func small(s string) string {
	return strings.Map(func(r rune) rune {
		if 'A' <= r && r <= 'Z' {
			return r + 32
		}
		return r
	}, runes(s))
}

// valuesOf: the values of a name (small), in order.
func valuesOf(list []api.Field, name string) []string {
	var values []string
	for _, field := range list {
		if small(field.Name) == name {
			values = append(values, field.Value)
		}
	}
	return values
}

// joinedOf: the values of a name (small) as one text.
func joinedOf(list []api.Field, name string) string {
	return strings.Join(valuesOf(list, name), ", ")
}

// tagByPattern: the opaque part of a tag, or nothing, and what stands ahead of it.
func tagByPattern(s string) (part, mark string) {
	if found := aTag.FindStringSubmatch(runes(s)); found != nil {
		return plain(found[2]), found[1]
	}
	return "", ""
}

func sameByPattern(a, b string, strong bool) bool {
	partA, markA := tagByPattern(a)
	partB, markB := tagByPattern(b)
	return partA != "" && partA == partB && (!strong || markA+markB == "")
}

// timeOf: the time that a date says, by the library's calendar. A date is read if it is written back as it was.
func timeOf(s string) (time.Time, bool) {
	for _, form := range []string{"Mon, 02 Jan 2006 15:04:05 GMT", "Mon Jan _2 15:04:05 2006"} {
		if at, err := time.Parse(form, s); err == nil && at.Format(form) == s && at.Year() >= 1970 {
			return at, true
		}
	}
	const dashed = "Monday, 02-Jan-06 15:04:05 GMT"
	// The library cuts the years in two at 69 and not at 70, so the century is told to it.
	day, rest, found := strings.Cut(s, "-")
	month, year, more := strings.Cut(rest, "-")
	if !found || !more || year == "" {
		return time.Time{}, false
	}
	century := "20"
	if year[0] >= '7' {
		century = "19"
	}
	at, err := time.Parse(strings.Replace(dashed, "06", "2006", 1), day+"-"+month+"-"+century+year)
	return at, err == nil && at.Format(dashed) == s
}

// elementsOf: the elements of the values, each value cut by itself.
func elementsOf(values []string) []string {
	var all []string
	for _, value := range values {
		rest := runes(value) + ","
		for rest != "" {
			element := anElement.FindString(strings.TrimSuffix(rest, ","))
			rest = strings.TrimPrefix(rest[len(element):], ",")
			if element = strings.Trim(element, " \t"); element != "" {
				all = append(all, plain(element))
			}
		}
	}
	return all
}

func askByWords(r api.Response) []api.Field {
	var ask []api.Field
	tag, modified := joinedOf(r.Fields, "etag"), joinedOf(r.Fields, "last-modified")
	if part, _ := tagByPattern(tag); part != "" {
		ask = append(ask, api.Field{Name: "If-None-Match", Value: tag})
	}
	if _, read := timeOf(modified); read {
		ask = append(ask, api.Field{Name: "If-Modified-Since", Value: modified})
	}
	return ask
}

func unchangedByWords(ask []api.Field, r api.Response) bool {
	if r.Status != 200 {
		return false
	}
	if values := valuesOf(ask, "if-none-match"); values != nil {
		return slices.ContainsFunc(elementsOf(values), func(element string) bool {
			return element == "*" || sameByPattern(element, joinedOf(r.Fields, "etag"), false)
		})
	}
	since, asked := timeOf(joinedOf(ask, "if-modified-since"))
	modified, told := timeOf(joinedOf(r.Fields, "last-modified"))
	return asked && told && !modified.After(since)
}

func mergeByWords(stored, update []api.Field) []api.Field {
	var merged, news []api.Field
	for _, field := range update {
		if !noNews.MatchString(small(field.Name)) {
			news = append(news, field)
		}
	}
	for _, field := range stored {
		if len(valuesOf(news, small(field.Name))) == 0 {
			merged = append(merged, field)
		}
	}
	if merged = append(merged, news...); len(merged) > 100 {
		return stored
	}
	return merged
}

func wantTagAsOracle(t *testing.T, s string) {
	t.Helper()
	if part, mark := tagByPattern(s); part != "" {
		wantTag(t, s, part, mark != "")
	} else {
		wantNoTag(t, s)
	}
}

func wantSameAsOracle(t *testing.T, a, b string) {
	t.Helper()
	wantSame(t, a, b, false, sameByPattern(a, b, false))
	wantSame(t, a, b, true, sameByPattern(a, b, true))
}

func wantAskAsOracle(t *testing.T, r api.Response) {
	t.Helper()
	if got, want := valid.Ask(r), askByWords(r); !slices.Equal(got, want) {
		t.Errorf("Ask(%.300q) = %.300q; want %.300q", r.Fields, got, want)
	}
}

func wantUnchangedAsOracle(t *testing.T, ask []api.Field, r api.Response) {
	t.Helper()
	wantUnchanged(t, ask, r, unchangedByWords(ask, r))
}

func wantMergeAsOracle(t *testing.T, stored, update []api.Field) {
	t.Helper()
	wantMerge(t, stored, update, mergeByWords(stored, update))
}

// everyRow: all rows of at most n things out of some.
func everyRow[T any](n int, some ...T) [][]T {
	all := [][]T{nil}
	for from := 0; n > 0; n-- {
		to := len(all)
		for _, row := range all[from:to] {
			for _, thing := range some {
				all = append(all, append(slices.Clone(row), thing))
			}
		}
		from = to
	}
	return all
}

// everyText: all texts of at most n of the parts.
func everyText(n int, parts ...string) []string {
	var all []string
	for _, row := range everyRow(n, parts...) {
		all = append(all, strings.Join(row, ""))
	}
	return all
}

func TestTheOraclesCalendar(t *testing.T) {
	for text, want := range map[string]int64{
		"Sun, 06 Nov 1994 08:49:37 GMT": 784111777, "Sunday, 06-Nov-94 08:49:37 GMT": 784111777, "Sun Nov  6 08:49:37 1994": 784111777, early: 100, late: 1000, "Tuesday, 31-Dec-69 23:59:59 GMT": 3155759999, "Thursday, 01-Jan-70 00:00:00 GMT": 0,
	} {
		if at, read := timeOf(text); !read || at.Unix() != want {
			t.Errorf("timeOf(%q) = %d, %t", text, at.Unix(), read)
		}
	}
	for _, text := range []string{"", "-", "--", "Mon, 06 Nov 1994 08:49:37 GMT", "Sun Nov 6 08:49:37 1994", "Sun Nov 06 08:49:37 1994", "Wed, 31 Dec 1969 23:59:59 GMT", "Sun, 06 Nov 1994 08:49:37.5 GMT", "sun, 06 nov 1994 08:49:37 GMT", "Sunday, 06-Nov-1994 08:49:37 GMT", " " + late} {
		if _, read := timeOf(text); read {
			t.Errorf("timeOf(%q) is read", text)
		}
	}
}

func TestTagOfAllShortTexts(t *testing.T) {
	for _, s := range everyText(6, "W", "/", "\"", "a", " ", "\xff", "w") {
		wantTagAsOracle(t, s)
	}
}

func TestSameOfAllShortTexts(t *testing.T) {
	texts := everyText(4, "W/", "\"", "a", " ", "/")
	for _, a := range texts {
		for _, b := range texts {
			wantSameAsOracle(t, a, b)
		}
	}
}

func TestAskOfAllShortTags(t *testing.T) {
	for _, s := range everyText(5, "W/", "\"", "a", ",", " ", "\\") {
		wantAskAsOracle(t, ok("Etag", s, "X", "\"y\""))
		wantAskAsOracle(t, ok("Etag", "\"", "ETAG", s, "Last-Modified", late))
	}
}

func TestAskOfAllShortLists(t *testing.T) {
	for _, list := range everyRow(4, pairs("ETag", "\"a\"", "etag", "W/\"b\"", "ETAG", "", "Last-Modified", late, "last-modified", "Thu", "LAST-modified", "01 Jan 1970 00:01:40 GMT", "X", late)...) {
		wantAskAsOracle(t, api.Response{Fields: list})
	}
}

func TestUnchangedOfAllShortValues(t *testing.T) {
	for _, value := range everyText(6, "\"", "a", "\\", ",", " ", "*", "W/") {
		for _, tag := range []string{"\"a\"", "W/\"\"", "\"a,\"", "\"\\\"", "*", ""} {
			wantUnchangedAsOracle(t, named("If-None-Match", value), ok("ETag", tag))
		}
	}
}

func TestUnchangedOfAllShortLists(t *testing.T) {
	told := everyRow(2, pairs("ETag", "\"a\"", "etag", "W/\"b\"", "Last-Modified", early, "last-MODIFIED", late, "Last-Modified", "Thu", "Last-Modified", "01 Jan 1970 00:16:40 GMT", "Last-Modified", "x")...)
	for _, ask := range everyRow(3, pairs("If-None-Match", "\"b\", \"c", "if-none-match", "\"a\"", "If-None-Match", "", "IF-NONE-MATCH", "*", "If-Modified-Since", late, "if-modified-since", early, "If-Modified-Since", "Thu", "If-Modified-Since", "01 Jan 1970 00:01:40 GMT")...) {
		for _, list := range told {
			wantUnchangedAsOracle(t, ask, api.Response{Status: 200, Fields: list})
			wantUnchangedAsOracle(t, ask, api.Response{Status: 206, Fields: list})
		}
	}
}

func TestMergeOfAllShortLists(t *testing.T) {
	lists := everyRow(3, pairs("A", "1", "a", "2", "B", "3", "", "4", "Content-Length", "5", "CONNECTION", "6")...)
	for _, stored := range lists {
		for _, update := range lists {
			wantMergeAsOracle(t, stored, update)
		}
	}
}

// anyText: a text of a few parts at which answers change, or of any bytes.
func anyText(chance *rand.Rand) string {
	parts := []string{"\"a\"", "W/\"a\"", "\"b,c\"", "\"", "W/", "w/", "a", "*", "\\", ",", ", ", " ", "\t", "\xff", "\x7f", string([]byte{byte(chance.Intn(256))})}
	text := ""
	for range chance.Intn(6) {
		text += parts[chance.Intn(len(parts))]
	}
	return text
}

// anyDate: a date of one of the forms, perhaps with a byte changed.
func anyDate(chance *rand.Rand) string {
	forms := []string{"Mon, 02 Jan 2006 15:04:05 GMT", "Monday, 02-Jan-06 15:04:05 GMT", "Mon Jan _2 15:04:05 2006"}
	at := time.Unix(int64(chance.Intn(4)*100000000+chance.Intn(3)), 0).UTC()
	text := []byte(at.Format(forms[chance.Intn(len(forms))]))
	if chance.Intn(4) == 0 {
		text[chance.Intn(len(text))] = byte(chance.Intn(256))
	}
	return string(text)
}

func anyList(chance *rand.Rand, tags, dates string) []api.Field {
	names := []string{"A", "b", "Content-Length", "content-range", "Transfer-encoding", "CONNECTION"}
	var list []api.Field
	for range chance.Intn(5) {
		switch chance.Intn(4) {
		case 0:
			list = append(list, api.Field{Name: names[chance.Intn(len(names))], Value: anyText(chance)})
		case 1:
			list = append(list, api.Field{Name: dates, Value: anyDate(chance)})
		case 2:
			list = append(list, api.Field{Name: tags, Value: anyText(chance)})
		default:
			list = append(list, api.Field{Name: anyText(chance), Value: anyText(chance)})
		}
	}
	return list
}

func TestManyLists(t *testing.T) {
	chance := rand.New(rand.NewSource(18))
	for range 60000 {
		told, ask := anyList(chance, "ETag", "LAST-Modified"), anyList(chance, "if-none-MATCH", "If-Modified-since")
		r := api.Response{Status: 200 + chance.Intn(8)/7, Fields: told}
		wantTagAsOracle(t, anyText(chance))
		wantSameAsOracle(t, anyText(chance), anyText(chance))
		wantAskAsOracle(t, r)
		wantUnchangedAsOracle(t, ask, r)
		wantMergeAsOracle(t, told, anyList(chance, "etag", "Last-modified"))
		wantMergeAsOracle(t, told, ask)
	}
}

func FuzzValid(f *testing.F) {
	f.Add(200, "ETag", "\"a\"", "Last-Modified", late, "If-None-Match", "\"b\", \"a\"")
	f.Add(200, "ETag", "W/\"a\"", "last-modified", "Sun Nov  6 08:49:37 1994", "If-Modified-Since", "Sunday, 06-Nov-94 08:49:37 GMT")
	f.Add(404, "Content-Length", "*", "if-none-match", "*,\"\\", "Transfer-Encoding", "\xff,\x00")
	f.Fuzz(func(t *testing.T, status int, name, value, other, second, asked, told string) {
		stored, ask := pairs(name, value, other, second), pairs(asked, told, name, second)
		r := api.Response{Status: status, Fields: stored}
		for _, s := range []string{value, second, told, "\"" + told + "\""} {
			wantTagAsOracle(t, s)
			wantSameAsOracle(t, s, value)
			wantSameAsOracle(t, s, "W/"+s)
			wantAskAsOracle(t, ok("ETag", s, name, value))
			wantAskAsOracle(t, ok("Last-Modified", s, other, second))
			wantUnchangedAsOracle(t, named("If-None-Match", s, told), ok("ETag", value))
			wantUnchangedAsOracle(t, named("If-Modified-Since", s), ok("Last-Modified", value))
		}
		wantAskAsOracle(t, r)
		wantUnchangedAsOracle(t, ask, r)
		wantMergeAsOracle(t, stored, ask)
		wantMergeAsOracle(t, ask, stored)
	})
}
