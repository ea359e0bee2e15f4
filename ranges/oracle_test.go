package ranges_test

import (
	"fmt"
	"math/rand"
	"regexp"
	"slices"
	"strconv"
	"strings"
	"testing"

	"conduit/api"
	"conduit/date"
	"conduit/ranges"
)

// A second reading of the chapter, by patterns, by going through each byte of a body, and by trying each boundary; all texts are taken byte by byte.
var (
	aRange     = regexp.MustCompile(`(?s)^[Bb][Yy][Tt][Ee][Ss]=(.*)\z`)
	anElement  = regexp.MustCompile(`^(?:[^,"]|"(?:[^"\\]|\\[\x00-\x{ff}])*(?:"|\\?$))*`)
	fromFirst  = regexp.MustCompile(`^([0-9]{1,18})-([0-9]{1,18})?\z`)
	lastOnes   = regexp.MustCompile(`^-([0-9]{1,18})\z`)
	aStrongTag = regexp.MustCompile(`^"[\x21\x23-\x7e\x{80}-\x{ff}]*"\z`)
)

// runes: the bytes of a text as runes, so that a pattern sees each one by itself.
func runes(s string) string {
	var b strings.Builder
	for i := range len(s) {
		b.WriteRune(rune(s[i]))
	}
	return b.String()
}

// small: a text's bytes as runes in small letters, of which A to Z alone have one.
func small(s string) string {
	return strings.Map(func(r rune) rune {
		if 'A' <= r && r <= 'Z' {
			return r + 32
		}
		return r
	}, runes(s))
}

// elementsOf: the elements of a list whose bytes are runes.
func elementsOf(list string) []string {
	var all []string
	rest := list + ","
	for rest != "" {
		element := anElement.FindString(strings.TrimSuffix(rest, ","))
		rest = strings.TrimPrefix(rest[len(element):], ",")
		if element = strings.Trim(element, " \t"); element != "" {
			all = append(all, element)
		}
	}
	return all
}

// isWanted: what an element asks for, as a question for each byte's place; nil, if it is ill-formed.
func isWanted(element string, size int) func(place int) bool {
	numberOf := func(s string) int {
		n, err := strconv.Atoi(s)
		if err != nil {
			panic(err)
		}
		return n
	}
	if found := lastOnes.FindStringSubmatch(element); found != nil {
		return func(place int) bool { return size-place <= numberOf(found[1]) }
	}
	found := fromFirst.FindStringSubmatch(element)
	if found == nil {
		return nil
	}
	if found[2] == "" {
		return func(place int) bool { return place >= numberOf(found[1]) }
	}
	first, last := numberOf(found[1]), numberOf(found[2])
	if last < first {
		return nil
	}
	return func(place int) bool { return first <= place && place <= last }
}

// parseByWords is for small sizes.
func parseByWords(value string, size int) ([]api.Span, api.Errno) {
	found := aRange.FindStringSubmatch(runes(value))
	if size < 0 || found == nil {
		return nil, api.ErrRange
	}
	elements := elementsOf(found[1])
	if n := len(elements); n < 1 || 8 < n {
		return nil, api.ErrRange
	}
	var list []api.Span
	for _, element := range elements {
		wanted := isWanted(element, size)
		if wanted == nil {
			return nil, api.ErrRange
		}
		var places []int
		for place := range size {
			if wanted(place) {
				places = append(places, place)
			}
		}
		if places != nil {
			list = append(list, api.Span{First: places[0], Last: places[len(places)-1]})
		}
	}
	if list == nil {
		return nil, api.ErrUnsat
	}
	return list, api.OK
}

// joinedOf: the values of a name (small) as one text, and how many there are.
func joinedOf(list []api.Field, name string) (string, int) {
	var values []string
	for _, field := range list {
		if small(field.Name) == name {
			values = append(values, field.Value)
		}
	}
	return strings.Join(values, ", "), len(values)
}

// without: the fields that are of none of the names (small).
func without(list []api.Field, names ...string) []api.Field {
	return slices.DeleteFunc(slices.Clone(list), func(f api.Field) bool { return slices.Contains(names, small(f.Name)) })
}

func holdsByWords(ask []api.Field, r api.Response) bool {
	condition, n := joinedOf(ask, "if-range")
	tag, _ := joinedOf(r.Fields, "etag")
	modified, _ := joinedOf(r.Fields, "last-modified")
	if n == 0 || condition == tag && aStrongTag.MatchString(runes(tag)) {
		return true
	}
	_, errno := date.Parse(modified)
	return condition == modified && errno == api.OK
}

func applyByWords(ask []api.Field, r api.Response, body string) (api.Response, string) {
	value, asked := joinedOf(ask, "range")
	list, errno := parseByWords(value, len(body))
	if r.Status != 200 || asked == 0 || errno == api.ErrRange || !holdsByWords(ask, r) {
		return r, body
	}
	place := func(span api.Span) string { return fmt.Sprintf("bytes %d-%d/%d", span.First, span.Last, len(body)) }
	if errno == api.ErrUnsat {
		return api.Response{Status: 416, Reason: "Range Not Satisfiable", Minor: r.Minor, Fields: append(without(r.Fields, "content-length", "content-type", "content-range"), api.Field{Name: "Content-Range", Value: fmt.Sprintf("bytes */%d", len(body))})}, ""
	}
	some := api.Response{Status: 206, Reason: "Partial Content", Minor: r.Minor}
	if len(list) == 1 {
		some.Fields = append(without(r.Fields, "content-length", "content-range"), api.Field{Name: "Content-Range", Value: place(list[0])})
		return some, body[list[0].First : list[0].Last+1]
	}
	number := 0
	for strings.Contains(body, fmt.Sprintf("--conduit-%d", number)) {
		number++
	}
	parts := ""
	for _, span := range list {
		parts += fmt.Sprintf("\r\n--conduit-%d\r\n", number)
		if kind, n := joinedOf(r.Fields, "content-type"); n > 0 {
			parts += fmt.Sprintf("Content-Type: %s\r\n", kind)
		}
		parts += fmt.Sprintf("Content-Range: %s\r\n\r\n%s", place(span), body[span.First:span.Last+1])
	}
	some.Fields = append(without(r.Fields, "content-length", "content-range", "content-type"), api.Field{Name: "Content-Type", Value: fmt.Sprintf("multipart/byteranges; boundary=conduit-%d", number)})
	return some, parts + fmt.Sprintf("\r\n--conduit-%d--\r\n", number)
}

func wantParsedAsOracle(t *testing.T, value string, size int) {
	t.Helper()
	want, wantErrno := parseByWords(value, size)
	if got, errno := ranges.Parse(value, size); errno != wantErrno || !slices.Equal(got, want) {
		t.Errorf("Parse(%.300q, %d) = %v, %d; want %v, %d", value, size, got, errno, want, wantErrno)
	}
}

func wantAppliedAsOracle(t *testing.T, ask []api.Field, r api.Response, body string) {
	t.Helper()
	want, wantBody := applyByWords(ask, r, body)
	wantApplied(t, ask, r, body, want, wantBody)
}

// everyRow: all rows of at most n things out of some.
func everyRow[T any](n int, some ...T) [][]T {
	all := [][]T{nil}
	for from := 0; n > 0; n-- {
		to := len(all)
		for _, row := range all[from:to] {
			for _, thing := range some {
				all = append(all, append(slices.Clone(row), thing))
			}
		}
		from = to
	}
	return all
}

// everyText: all texts of at most n of the parts.
func everyText(n int, parts ...string) []string {
	var all []string
	for _, row := range everyRow(n, parts...) {
		all = append(all, strings.Join(row, ""))
	}
	return all
}

func TestParseOfAllShortTexts(t *testing.T) {
	for _, text := range everyText(6, "0", "3", "12", "-", ",", " ", "x") {
		for _, size := range []int{-1, 0, 1, 4, 12, 13} {
			wantParsedAsOracle(t, "bytes="+text, size)
		}
	}
}

func TestParseOfAllShortTextsWithQuotes(t *testing.T) {
	for _, text := range everyText(6, "1-", "\"", "\\", ",", "\t", "2") {
		wantParsedAsOracle(t, "bytes="+text, 5)
	}
}

func TestParseOfAllShortBeginnings(t *testing.T) {
	for _, text := range everyText(5, "bytes", "BYTES", "byte", "s", "=", " ", "1-") {
		wantParsedAsOracle(t, text, 5)
	}
}

func TestApplyOfAllShortBodies(t *testing.T) {
	for _, body := range everyText(6, "--conduit-", "-conduit-", "0", "1", "-", "2x") {
		wantAppliedAsOracle(t, pairs("Range", "bytes=0-,-1"), whole("X", "y"), body)
	}
	for _, body := range everyText(4, "--conduit-", "--conduit-0", "--conduit-1", "2", "0", "10", "\r\n--", "conduit-0") {
		wantAppliedAsOracle(t, pairs("Range", "bytes=0-,-1"), whole("Content-Type", "a/b"), body)
	}
}

// Each list of a request with each of a response, as long as they are short.
func TestApplyOfAllShortLists(t *testing.T) {
	asks := everyRow(2, pairs("Range", "bytes=1-2", "range", "bytes=9-", "RANGE", "-1", "Range", "", "If-Range", "\"a\"", "if-range", late, "IF-RANGE", "W/\"a\"", "If-Range", "")...)
	for _, ask := range slices.Clone(asks) {
		asks = append(asks, append(pairs("Range", "bytes=0-0,-2"), ask...))
	}
	for _, told := range everyRow(3, pairs("ETag", "\"a\"", "etag", "W/\"a\"", "Last-Modified", late, "last-modified", "x", "Content-Type", "a/b", "content-type", "", "Content-Length", "4", "CONTENT-RANGE", "y", "Content", "z")...) {
		for _, ask := range asks {
			wantAppliedAsOracle(t, ask, api.Response{Status: 200, Reason: "OK", Minor: 1, Fields: told}, "abcd")
		}
	}
}

func TestApplyOfEachPairOfPlaces(t *testing.T) {
	body := "0123456789"
	for first := range 13 {
		for second := range 13 {
			for _, form := range []string{"%d-%d", "%d-,-%d", "-%d,%d-", "%[2]d-,%[1]d-", "%d-11,%d-12", "-%[2]d,-%[1]d"} {
				wantAppliedAsOracle(t, pairs("Range", "bytes="+fmt.Sprintf(form, first, second)), whole("Content-Type", "a/b", "Content-Length", "10"), body)
			}
		}
	}
}

// anyRange: a Range of a few elements at which answers change, perhaps with a byte changed.
func anyRange(chance *rand.Rand) string {
	parts := []string{"0-", "0-0", "-1", "-0", "1-2", "5-9", "9-", "3-2", "-", "12-34", "-99", "007-", "123456789012345678-", "0-1234567890123456789", "", " ", "x", "\"0-\""}
	text := []byte("bytes=")
	for range chance.Intn(11) {
		some := len(parts)
		// Most of them are sound, so that not each long list has a fault.
		if chance.Intn(8) > 0 {
			some = 7
		}
		text = append(text, parts[chance.Intn(some)]+[]string{",", ", ", "\t,", ",,"}[chance.Intn(4)]...)
	}
	if chance.Intn(6) == 0 {
		text[chance.Intn(len(text))] = byte(chance.Intn(256))
	}
	return string(text)
}

func anyBody(chance *rand.Rand) string {
	parts := []string{"--conduit-", "--conduit-", "--conduit-0", "--conduit-1", "-conduit-", "conduit", "-", "0", "1", "2", "10", "\r\n", "\x00", "\xff", "body"}
	body := ""
	for range chance.Intn(12) {
		body += parts[chance.Intn(len(parts))]
	}
	return body
}

func anyFields(chance *rand.Rand) []api.Field {
	names := []string{"Content-Type", "content-length", "CONTENT-Range", "X", "", "ETag", "Last-Modified", "content-TYPE", "Content-Length"}
	values := []string{"\"a\"", "W/\"a\"", late, early, "a/b", "", "\"b\"", "4", "x"}
	var list []api.Field
	for range chance.Intn(6) {
		list = append(list, api.Field{Name: names[chance.Intn(len(names))], Value: values[chance.Intn(len(values))]})
	}
	return list
}

func TestManyRanges(t *testing.T) {
	chance := rand.New(rand.NewSource(19))
	answers := make(map[int]int)
	for range 100000 {
		value, body := anyRange(chance), anyBody(chance)
		wantParsedAsOracle(t, value, chance.Intn(20)-2)
		ask := pairs([]string{"Range", "range", "X"}[chance.Intn(21)/10], value)
		if chance.Intn(3) == 0 {
			ask = append(ask, api.Field{Name: "If-range", Value: []string{"\"a\"", "W/\"a\"", late, early, ""}[chance.Intn(5)]})
		}
		r := api.Response{Status: 200 + chance.Intn(20)/19, Reason: "OK", Minor: chance.Intn(2), Fields: anyFields(chance)}
		wantAppliedAsOracle(t, ask, r, body)
		got, _ := ranges.Apply(ask, r, []byte(body))
		answers[got.Status]++
	}
	for _, status := range []int{200, 201, 206, 416} {
		if answers[status] < 1000 {
			t.Errorf("just %d of the answers have the status %d", answers[status], status)
		}
	}
}

func FuzzRanges(f *testing.F) {
	f.Add(200, "bytes=0-0,-1", "\"a\"", "Etag", "\"a\"", "--conduit-0--conduit--conduit-1")
	f.Add(200, "Bytes=1-2, ,9-", late, "Last-Modified", late, "abcd")
	f.Add(404, "bytes=2-1", "", "Content-Type", "a/b", "")
	f.Add(200, "bytes=9-", "W/\"a\"", "content-length", "4", "\x00\xff")
	f.Fuzz(func(t *testing.T, status int, value, condition, name, told, body string) {
		r := api.Response{Status: status, Reason: told, Minor: status, Fields: pairs("Content-Type", told, name, told, name, value)}
		good := r
		good.Status = 200
		for size := range 12 {
			wantParsedAsOracle(t, value, size-1)
			wantParsedAsOracle(t, "bytes="+value, size-1)
		}
		for _, ask := range [][]api.Field{pairs("Range", value), pairs("Range", "bytes="+value), pairs("Range", "bytes=0-,-1"), pairs(name, value, "Range", value), pairs("Range", "bytes=1-", "If-Range", condition), pairs("Range", "bytes=0-", "If-Range", told)} {
			wantAppliedAsOracle(t, ask, r, body)
			wantAppliedAsOracle(t, ask, good, body)
			wantAppliedAsOracle(t, ask, whole("ETag", told, "Last-Modified", condition), body)
		}
	})
}
