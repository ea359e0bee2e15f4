package fresh_test

import (
	"math"
	"reflect"
	"slices"
	"strconv"
	"strings"
	"testing"

	"conduit/api"
	"conduit/date"
	"conduit/fresh"
)

const (
	ageCap  = 2_147_483_648
	timeCap = 253_402_300_799
)

// none: what is told where there is nothing.
func none() api.Control {
	return api.Control{MaxAge: -1, SMaxAge: -1, MinFresh: -1, MaxStale: -1}
}

// with: none, changed.
func with(change func(c *api.Control)) api.Control {
	c := none()
	change(&c)
	return c
}

// at: the date of a second.
func at(second int) string {
	text, errno := date.Show(second)
	if errno != api.OK {
		panic(second)
	}
	return text
}

// pairs: the fields of names and values by turns.
func pairs(texts ...string) []api.Field {
	var list []api.Field
	for i := 0; i < len(texts); i += 2 {
		list = append(list, api.Field{Name: texts[i], Value: texts[i+1]})
	}
	return list
}

func get(texts ...string) api.Request {
	return api.Request{Method: "GET", Target: "http://a/", Minor: 1, Fields: pairs(texts...)}
}

func answer(status int, texts ...string) api.Response {
	return api.Response{Status: status, Minor: 1, Fields: pairs(texts...)}
}

// entry: what was asked for and came at second 1,000.
func entry(status int, texts ...string) api.Entry {
	return timed(1000, 1000, texts...).status(status)
}

// stored is an entry with the means to change it.
type stored struct{ api.Entry }

func timed(asked, got int, texts ...string) stored {
	return stored{api.Entry{Key: "k", Resp: answer(200, texts...), Asked: asked, Got: got}}
}

func (s stored) status(status int) api.Entry {
	s.Resp.Status = status
	return s.Entry
}

func wantStorable(t *testing.T, r api.Request, s api.Response, want bool) {
	t.Helper()
	if got := fresh.Storable(r, s); got != want {
		t.Errorf("Storable(%+v, %+v) = %v", r, s, got)
	}
}

func wantLifetime(t *testing.T, e api.Entry, p api.Policy, want int) {
	t.Helper()
	if got := fresh.Lifetime(e, p); got != want {
		t.Errorf("Lifetime(%+v, %+v) = %d; want %d", e, p, got, want)
	}
}

func wantAge(t *testing.T, e api.Entry, now, want int) {
	t.Helper()
	if got := fresh.Age(e, now); got != want {
		t.Errorf("Age(%+v, %d) = %d; want %d", e, now, got, want)
	}
}

func wantJudge(t *testing.T, c api.Control, e api.Entry, now, want int) {
	t.Helper()
	if got := fresh.Judge(c, e, api.Policy{}, now); got != want {
		t.Errorf("Judge(%+v, %+v, at %d) = %d; want %d", c, e, now, got, want)
	}
}

// unread: texts that are no dates.
func unread() []string {
	return []string{
		"", "0", "-1", "x", "never", " " + at(1100), at(1100) + " ", at(1100) + "x", strings.ToLower(at(1100)), strings.Replace(at(1100), "Thu", "Fri", 1),
		strings.Replace(at(1100), "GMT", "UTC", 1), at(1100) + ", " + at(1100), "Thu, 32 Jan 1970 00:00:00 GMT", "Sat, 01 Jan 10000 00:00:00 GMT", "1100",
	}
}

// P16.1: Storable

// always are the statuses that may be stored by themselves.
func always() []int {
	return []int{200, 203, 300, 301, 404, 405, 410, 414, 501}
}

// tellings are the ways of telling a lifetime.
func tellings() [][]string {
	return [][]string{
		{"Cache-Control", "max-age=0"}, {"Cache-Control", "max-age=60"}, {"Cache-Control", "max-age"}, {"cache-control", "MAX-AGE=x"},
		{"Cache-Control", "s-maxage=0"}, {"Cache-Control", "s-maxage=60"}, {"Cache-Control", "x, s-maxage"},
		{"Expires", at(1100)}, {"Expires", at(0)}, {"Expires", "0"}, {"Expires", ""}, {"expires", "x"}, {"EXPIRES", "", "Expires", ""},
	}
}

func TestStorableOfEachStatus(t *testing.T) {
	for status := -700; status < 1700; status++ {
		wantStorable(t, get(), answer(status), slices.Contains(always(), status))
		want := slices.Contains(always(), status) || status == 302 || status == 307
		for _, telling := range tellings() {
			wantStorable(t, get(), answer(status, telling...), want)
		}
	}
	for _, status := range []int{math.MinInt, math.MaxInt, 200 + 1<<32, 200 - 1<<32, -200} {
		wantStorable(t, get(), answer(status, "Expires", ""), false)
	}
}

func TestWhatTellsNoLifetime(t *testing.T) {
	for _, status := range []int{302, 307} {
		for _, list := range [][]string{
			nil, {"Cache-Control", ""}, {"Cache-Control", "public"}, {"Cache-Control", "must-revalidate"}, {"Cache-Control", "min-fresh=5, max-stale=5"}, {"Cache-Control", "\"max-age=5\""},
			{"Date", at(1000), "Last-Modified", at(900)}, {"Age", "5"}, {"Expire", at(1100)}, {"Expires ", at(1100)}, {"X", "Expires"}, {"Max-Age", "5"}, {"Pragma", "max-age=5"},
		} {
			wantStorable(t, get(), answer(status, list...), false)
		}
		wantStorable(t, get("Cache-Control", "max-age=60, s-maxage=60", "Expires", at(1100)), answer(status), false)
	}
}

func TestStorableOfMethods(t *testing.T) {
	for _, method := range []string{"", "get", "Get", "GEt", "gET", "GET ", " GET", "GETS", "GE", "HEAD", "POST", "PUT", "DELETE", "CONNECT", "OPTIONS", "TRACE", "PATCH", "\x00GET", "G\u0415T"} {
		for _, status := range always() {
			r := get()
			r.Method = method
			wantStorable(t, r, answer(status), false)
			wantStorable(t, r, answer(status, "Cache-Control", "public, max-age=60"), false)
		}
	}
	wantStorable(t, api.Request{Method: "GET"}, api.Response{Status: 200}, true)
	wantStorable(t, api.Request{}, api.Response{}, false)
}

func TestNoStoreOnEitherSide(t *testing.T) {
	for _, value := range []string{"no-store", "No-Store", "x, NO-STORE", "no-store=x", "max-age=60, public, no-store, s-maxage=60"} {
		for _, status := range always() {
			wantStorable(t, get("Cache-Control", value), answer(status), false)
			wantStorable(t, get(), answer(status, "Cache-Control", value), false)
			wantStorable(t, get("cache-control", value), answer(status, "CACHE-CONTROL", value), false)
			wantStorable(t, get("X", "y", "Cache-Control", "", "Cache-Control", value), answer(status), false)
			wantStorable(t, get(), answer(status, "Cache-Control", "public, max-age=60", "Cache-Control", value), false)
		}
		wantStorable(t, get("Pragma", value), answer(200, "Pragma", value), true)
	}
	for _, value := range []string{"no-stor", "\"no-store\"", "x=\"a, no-store\"", "x=no-store", "no-cache", "no-cache=\"no-store\""} {
		wantStorable(t, get("Cache-Control", value), answer(200, "Cache-Control", value), true)
	}
}

// Private counts on the response's side alone; no-cache on none.
func TestPrivate(t *testing.T) {
	for _, value := range []string{"private", "Private", "private=\"X\"", "public, private", "max-age=60, s-maxage=60, private"} {
		for _, status := range append(always(), 302, 307) {
			wantStorable(t, get(), answer(status, "Cache-Control", value, "Expires", ""), false)
			wantStorable(t, get("Cache-Control", value), answer(status, "Expires", ""), true)
		}
	}
	wantStorable(t, get(), answer(200, "Cache-Control", "\"private\", x=private"), true)
	wantStorable(t, get("Cache-Control", "no-cache, max-age=0, only-if-cached", "Pragma", "no-cache"), answer(200, "Cache-Control", "no-cache, max-age=0"), true)
}

func TestAuthorization(t *testing.T) {
	for _, name := range []string{"Authorization", "authorization", "AUTHORIZATION"} {
		for _, value := range []string{"", "x", "Basic eDp5"} {
			asked := get("Host", "a", name, value)
			for _, status := range always() {
				for _, open := range []string{
					"public", "Public", "public=x", "must-revalidate", "proxy-revalidate", "Must-Revalidate=1", "s-maxage=0", "s-maxage=60", "s-maxage", "s-maxage=x", "max-age=5, x, S-MaxAge=5",
				} {
					wantStorable(t, asked, answer(status, "Cache-Control", open), true)
				}
				for _, shut := range []string{
					"", "x", "max-age=60", "no-cache", "min-fresh=5", "max-stale", "only-if-cached", "\"public\"", "x=\"a, public\"", "public, private", "s-maxage=60, no-store",
				} {
					wantStorable(t, asked, answer(status, "Cache-Control", shut), false)
				}
				wantStorable(t, asked, answer(status), false)
				wantStorable(t, asked, answer(status, "Expires", at(1100), "Public", "public"), false)
				wantStorable(t, get(name, value, "Cache-Control", "public, must-revalidate, s-maxage=60"), answer(status), false)
			}
		}
	}
	wantStorable(t, get("Proxy-Authorization", "x", "Authorization ", "x", "X", "Authorization"), answer(200), true)
	wantStorable(t, get(), answer(200, "Authorization", "x", "WWW-Authenticate", "x"), true)
}

func TestVary(t *testing.T) {
	for _, list := range [][]string{
		{"Vary", "*"}, {"vary", "*"}, {"VARY", " *\t"}, {"Vary", "a, *"}, {"Vary", "*, a"}, {"Vary", "a,*,b"}, {"Vary", ",,*,"},
		{"Vary", "a", "Vary", "*"}, {"Vary", "*", "Vary", "a"}, {"Vary", "", "X", "y", "vary", "b, *"}, {"Vary", "\"a", "Vary", "*"}, {"Vary", "\"a,b\", *"},
	} {
		for _, status := range always() {
			wantStorable(t, get(), answer(status, append(list, "Cache-Control", "public, max-age=60")...), false)
		}
	}
	for _, list := range [][]string{
		{"Vary", ""}, {"Vary", "a"}, {"Vary", "a, b"}, {"Vary", "\"*\""}, {"Vary", "\"a, *\""}, {"Vary", "\"a\\\", *"}, {"Vary", "\"a,*"}, {"Vary", "a, \"*\", b"},
		{"Vary", "**"}, {"Vary", "a*"}, {"Vary", "*a"}, {"Vary", "* a"}, {"Vary", "*;a"}, {"Vary", "\\*"}, {"Vary", "a", "X", "*"}, {"Varys", "*"}, {"Vary ", "*"},
	} {
		for _, status := range always() {
			wantStorable(t, get(), answer(status, list...), true)
		}
	}
	wantStorable(t, get("Vary", "*"), answer(200), true)
}

func TestRange(t *testing.T) {
	for _, name := range []string{"Range", "range", "RANGE"} {
		for _, value := range []string{"", "x", "bytes=0-1"} {
			for status := range 700 {
				want := slices.Contains([]int{300, 301, 302, 307, 404, 405, 410, 414, 501}, status)
				wantStorable(t, get(name, value), answer(status, "Expires", at(1100)), want)
			}
		}
	}
	wantStorable(t, get("If-Range", "x", "Ranges", "x", "X", "Range", "Accept-Ranges", "bytes"), answer(200, "Range", "x", "Content-Range", "x"), true)
}

// P16.2: Lifetime

// policy: one whose numbers are all different.
func policy() api.Policy {
	return api.Policy{Min: 5, Percent: 10, Max: 80, Negative: 30}
}

func TestLifetimeOfTheChaptersExamples(t *testing.T) {
	wantLifetime(t, entry(200, "Date", at(1000), "Cache-Control", "max-age=60"), api.Policy{}, 60)
	wantLifetime(t, entry(404), policy(), 30)
	wantLifetime(t, entry(200, "Date", at(1000), "Last-Modified", at(100)), api.Policy{Percent: 10, Max: 1000}, 90)
}

func TestTheFirstThatTellsALifetimeCounts(t *testing.T) {
	for _, status := range []int{200, 404, 501, 302, 0} {
		rest := []string{"Expires", at(1100), "Last-Modified", at(100), "Date", at(1000)}
		for _, number := range []int{0, 1, 60, ageCap - 1, ageCap} {
			text := strconv.Itoa(number)
			wantLifetime(t, entry(status, append(rest, "Cache-Control", "max-age=7, s-maxage="+text)...), policy(), number)
			wantLifetime(t, entry(status, append(rest, "Cache-Control", "s-maxage="+text+", max-age=7")...), policy(), number)
			wantLifetime(t, entry(status, append(rest, "Cache-Control", "s-maxage="+text)...), policy(), number)
			wantLifetime(t, entry(status, append(rest, "Cache-Control", "max-age="+text)...), policy(), number)
			wantLifetime(t, entry(status, "Cache-Control", "max-age="+text), policy(), number)
		}
		for _, nought := range []string{"max-age", "max-age=x", "s-maxage", "s-maxage=-5, max-age=5"} {
			wantLifetime(t, entry(status, append(rest, "Cache-Control", nought)...), policy(), 0)
		}
		wantLifetime(t, entry(status, append(rest, "Cache-Control", "max-age=2147483649")...), policy(), ageCap)
		wantLifetime(t, entry(status, append(rest, "Cache-Control", "no-cache, no-store, min-fresh=5, max-stale=6")...), policy(), 100)
		wantLifetime(t, entry(status, rest...), policy(), 100)
	}
}

func TestLifetimeByExpires(t *testing.T) {
	for _, status := range []int{200, 404, 410, 302} {
		for _, made := range []int{0, 1000, 784111777} {
			for more := -1000; more < 1000; more++ {
				if made+more < 0 {
					continue
				}
				e := entry(status, "Date", at(made), "Expires", at(made+more), "Last-Modified", at(0))
				wantLifetime(t, e, policy(), max(more, 0))
			}
		}
		for _, text := range unread() {
			wantLifetime(t, entry(status, "Date", at(1000), "Expires", text, "Last-Modified", at(100)), policy(), 0)
			wantLifetime(t, entry(status, "expires", text), policy(), 0)
		}
		wantLifetime(t, entry(status, "Expires", at(1100), "Expires", at(1100)), policy(), 0)
		wantLifetime(t, entry(status, "Expires", at(1100), "Expires", ""), policy(), 0)
	}
}

func TestExpiresFarAwayIsCut(t *testing.T) {
	for more, want := range map[int]int{
		ageCap - 1: ageCap - 1, ageCap: ageCap, ageCap + 1: ageCap, ageCap + 2: ageCap, 2 * ageCap: ageCap, 2*ageCap + 5: ageCap, timeCap - 1000: ageCap,
	} {
		wantLifetime(t, entry(200, "Date", at(1000), "Expires", at(1000+more)), policy(), want)
		wantLifetime(t, entry(200, "Expires", at(1000+more)), policy(), want)
	}
	wantLifetime(t, entry(200, "Date", at(timeCap), "Expires", at(0)), policy(), 0)
	wantLifetime(t, entry(200, "Date", at(0), "Expires", at(timeCap)), policy(), ageCap)
	wantLifetime(t, entry(200, "Date", at(timeCap-1), "Expires", at(timeCap)), policy(), 1)
}

func TestDatesInEachForm(t *testing.T) {
	made := []string{"Sun, 06 Nov 1994 08:49:37 GMT", "Sunday, 06-Nov-94 08:49:37 GMT", "Sun Nov  6 08:49:37 1994"}
	for _, one := range made {
		for _, expires := range []string{"Sun, 06 Nov 1994 08:50:37 GMT", "Sunday, 06-Nov-94 08:50:37 GMT", "Sun Nov  6 08:50:37 1994"} {
			wantLifetime(t, entry(200, "Date", one, "Expires", expires), policy(), 60)
			wantLifetime(t, entry(200, "Date", expires, "Last-Modified", one), api.Policy{Percent: 50, Max: 100}, 30)
		}
		wantAge(t, timed(784111800, 784111800, "Date", one).Entry, 784111800, 23)
	}
}

// Without a Date that is read, the date is when the response came, cut.
func TestTheDateOfAnEntryWithoutOne(t *testing.T) {
	dates := [][]string{nil, {"Date", at(7), "Date", at(8)}, {"X", at(7)}, {"Dates", at(7)}}
	for _, text := range unread() {
		dates = append(dates, []string{"Date", text})
	}
	for _, list := range dates {
		for got, made := range map[int]int{1000: 1000, 0: 0, -1: 0, math.MinInt: 0, timeCap - 100: timeCap - 100} {
			e := timed(5, got, append(list, "Expires", at(made+100))...).Entry
			wantLifetime(t, e, policy(), 100)
			wantAge(t, e, made+3, max(made-5, 0)+3)
		}
		for _, got := range []int{timeCap, timeCap + 1, timeCap + 1000, math.MaxInt} {
			e := timed(5, got, append(list, "Last-Modified", at(timeCap-1000))...).Entry
			wantLifetime(t, e, api.Policy{Percent: 50, Max: ageCap}, 500)
			e = timed(5, got, append(list, "Expires", at(timeCap))...).Entry
			wantLifetime(t, e, policy(), 0)
		}
	}
}

func TestNegative(t *testing.T) {
	for status := -700; status < 1700; status++ {
		plain := 5
		if slices.Contains([]int{404, 405, 410, 414, 501}, status) {
			plain = 30
		}
		wantLifetime(t, entry(status), policy(), plain)
		modified := plain
		if plain == 5 {
			modified = 80
		}
		wantLifetime(t, entry(status, "Last-Modified", at(100)), policy(), modified)
		wantLifetime(t, entry(status, "Cache-Control", "public"), policy(), plain)
	}
	for number, want := range map[int]int{
		math.MinInt: 0, -2: 0, -1: 0, 0: 0, 1: 1, 100000: 100000, ageCap - 1: ageCap - 1, ageCap: ageCap, ageCap + 1: ageCap, math.MaxInt: ageCap,
	} {
		// Neither Min nor Max is put to it.
		wantLifetime(t, entry(404), api.Policy{Min: 50, Max: 60, Negative: number}, want)
		wantLifetime(t, entry(501), api.Policy{Negative: number}, want)
	}
}

func TestLifetimeByLastModified(t *testing.T) {
	wide := api.Policy{Percent: 10, Max: ageCap, Negative: 7}
	for ago := range 2000 {
		wantLifetime(t, entry(200, "Date", at(5000), "Last-Modified", at(5000-ago)), wide, ago/10)
		wantLifetime(t, timed(0, 5000, "last-modified", at(5000-ago)).Entry, wide, ago/10)
	}
	for _, ahead := range []int{1, 2, 100, 1000} {
		wantLifetime(t, entry(200, "Date", at(5000), "Last-Modified", at(5000+ahead)), api.Policy{Min: 6, Percent: 100, Max: ageCap}, 6)
	}
	for _, text := range unread() {
		wantLifetime(t, entry(200, "Date", at(1200), "Last-Modified", text), api.Policy{Min: 6, Percent: 100, Max: ageCap}, 6)
	}
	wantLifetime(t, entry(200, "Last-Modified", at(100), "Last-Modified", at(100)), api.Policy{Min: 6, Percent: 100, Max: ageCap}, 6)
	wantLifetime(t, entry(200, "Date", at(1000), "Last-Modified", at(1000)), api.Policy{Percent: 100, Max: 80}, 0)
}

func TestPercent(t *testing.T) {
	for percent, want := range map[int]int{
		math.MinInt: 0, -100: 0, -1: 0, 0: 0, 1: 9, 2: 19, 50: 499, 99: 989, 100: 999, 101: 999, 200: 999, 10000: 999, math.MaxInt: 999,
	} {
		e := entry(200, "Date", at(1000), "Last-Modified", at(1))
		wantLifetime(t, e, api.Policy{Percent: percent, Max: 5000}, want)
		wantLifetime(t, e, api.Policy{Percent: percent, Max: 5000, Min: 20}, max(want, 20))
		wantLifetime(t, e, api.Policy{Percent: percent, Max: 500, Min: 20}, min(max(want, 20), 500))
	}
	old := entry(200, "Date", at(timeCap), "Last-Modified", at(0))
	wantLifetime(t, old, api.Policy{Percent: 100, Max: math.MaxInt}, ageCap)
	wantLifetime(t, old, api.Policy{Percent: math.MaxInt, Max: math.MaxInt}, ageCap)
	wantLifetime(t, old, api.Policy{Percent: 1, Max: ageCap - 1}, ageCap-1)
	wantLifetime(t, entry(200, "Date", at(100*ageCap-1), "Last-Modified", at(0)), api.Policy{Percent: 1, Max: ageCap}, ageCap-1)
}

func TestMinAndMax(t *testing.T) {
	cut := func(n int) int { return min(max(n, 0), ageCap) }
	numbers := []int{math.MinInt, -1000, -1, 0, 1, 89, 90, 91, 1000, ageCap - 1, ageCap, ageCap + 1, math.MaxInt}
	for _, least := range numbers {
		for _, most := range numbers {
			p := api.Policy{Min: least, Percent: 10, Max: most, Negative: 3}
			plain := min(cut(least), cut(most))
			wantLifetime(t, entry(200), p, plain)
			wantLifetime(t, entry(200, "Last-Modified", at(1001)), p, plain)
			wantLifetime(t, entry(200, "Last-Modified", at(100)), p, min(max(90, cut(least)), cut(most)))
			wantLifetime(t, entry(200, "Cache-Control", "max-age=60"), p, 60)
			wantLifetime(t, entry(200, "Expires", at(1070)), p, 70)
			wantLifetime(t, entry(404, "Last-Modified", at(100)), p, 3)
		}
	}
}

// P16.3: Age

func TestAgeOfTheChaptersExamples(t *testing.T) {
	e := entry(200, "Date", at(1000), "Cache-Control", "max-age=60")
	wantAge(t, e, 1030, 30)
	wantAge(t, e, 1060, 60)
}

func TestAgeBySmallNumbers(t *testing.T) {
	for made := -1; made < 6; made++ {
		for told := -1; told < 6; told++ {
			var list []string
			shown, said := made, told
			if made >= 0 {
				list = append(list, "Date", at(made))
			}
			if told >= 0 {
				list = append(list, "Age", strconv.Itoa(told))
			}
			for asked := range 6 {
				for got := range 6 {
					if made < 0 {
						shown = got
					}
					for now := range 6 {
						first := max(got-shown, 0)
						second := max(said, 0) + max(got-asked, 0)
						wantAge(t, timed(asked, got, list...).Entry, now, max(first, second)+max(now-got, 0))
					}
				}
			}
		}
	}
}

func TestWhichOfTwoAgesCounts(t *testing.T) {
	// The date tells 10, the field and the way 20 and 5.
	e := timed(1005, 1010, "Date", at(1000), "Age", "20").Entry
	wantAge(t, e, 1010, 25)
	wantAge(t, e, 1015, 30)
	wantAge(t, e, 1009, 25)
	wantAge(t, e, 0, 25)
	wantAge(t, timed(1005, 1010, "Date", at(1000), "Age", "4").Entry, 1015, 15)
	wantAge(t, timed(1005, 1010, "Date", at(1000), "Age", "5").Entry, 1015, 15)
	wantAge(t, timed(1005, 1010, "Date", at(1000), "Age", "6").Entry, 1015, 16)
	wantAge(t, timed(1005, 1010, "Date", at(1010)).Entry, 1010, 5)
	wantAge(t, timed(1005, 1010).Entry, 1010, 5)
	wantAge(t, timed(1010, 1010).Entry, 1010, 0)
}

func TestAgeWithTimesTheOtherWayRound(t *testing.T) {
	wantAge(t, timed(1000, 1000, "Date", at(1500)).Entry, 1000, 0)
	wantAge(t, timed(1000, 1000, "Date", at(1500)).Entry, 1600, 600)
	wantAge(t, timed(2000, 1000).Entry, 1000, 0)
	wantAge(t, timed(2000, 1000, "Age", "7").Entry, 1001, 8)
	wantAge(t, timed(1000, 1000).Entry, 999, 0)
	wantAge(t, timed(900, 1000).Entry, 999, 100)
	wantAge(t, timed(900, 1000, "Date", at(2000)).Entry, 0, 100)
}

func TestTheFieldAge(t *testing.T) {
	for value, told := range map[string]int{
		"0": 0, "1": 1, "20": 20, "0020": 20, "2147483647": 2147483647, "2147483648": ageCap, "2147483649": ageCap,
		"9223372036854775808": ageCap, "18446744073709551621": ageCap, strings.Repeat("9", 1000): ageCap,
		"": 0, "x": 0, "-1": 0, "-20": 0, "+20": 0, "2 0": 0, " 20": 0, "20 ": 0, "20x": 0, "2.0": 0, "20, 30": 0, "\"20\"": 0, "1e3": 0,
	} {
		wantAge(t, timed(1000, 1000, "Age", value).Entry, 1000, told)
		wantAge(t, timed(990, 1000, "AGE", value, "Date", at(995)).Entry, 1003, max(5, told+10)+3)
	}
	wantAge(t, timed(1000, 1000, "Age", "20", "age", "20").Entry, 1000, 0)
	wantAge(t, timed(1000, 1000, "Age ", "20", "Ages", "20", "X", "20").Entry, 1000, 0)
}

func TestTimesAreCut(t *testing.T) {
	for _, low := range []int{math.MinInt, math.MinInt + 1, -timeCap, -ageCap, -1000, -1, 0} {
		wantAge(t, timed(low, 10).Entry, 10, 10)
		wantAge(t, timed(low, low).Entry, 10, 10)
		wantAge(t, timed(low, low).Entry, low, 0)
		wantAge(t, timed(0, 10).Entry, low, 10)
		wantAge(t, timed(low, low, "Date", at(0), "Age", "3").Entry, low, 3)
		wantAge(t, timed(low, low, "Date", at(50)).Entry, 60, 60)
	}
	for _, high := range []int{timeCap, timeCap + 1, timeCap + ageCap, math.MaxInt - 1, math.MaxInt} {
		wantAge(t, timed(timeCap-10, high).Entry, high, 10)
		wantAge(t, timed(high, high).Entry, high, 0)
		wantAge(t, timed(timeCap-10, timeCap-10).Entry, high, 10)
		wantAge(t, timed(high, high, "Date", at(timeCap-10)).Entry, high, 10)
		wantAge(t, timed(high, timeCap-5).Entry, timeCap-5, 0)
		wantAge(t, timed(math.MinInt, high, "Age", "2147483648").Entry, high, timeCap+ageCap)
		wantAge(t, timed(math.MinInt, math.MinInt, "Age", "2147483648").Entry, high, timeCap+ageCap)
		wantAge(t, timed(0, timeCap-1, "Age", strings.Repeat("9", 50), "Date", at(0)).Entry, high, timeCap+ageCap)
	}
}

func TestTheAgeHangsOnNothingElse(t *testing.T) {
	for _, status := range []int{0, 200, 404} {
		e := timed(990, 1000, "Date", at(995), "Expires", at(5), "Last-Modified", at(5), "Cache-Control", "max-age=5, no-cache", "Vary", "*").status(status)
		wantAge(t, e, 1005, 15)
	}
}

// P16.4: Judge

func TestTheNumbersOfTheAnswers(t *testing.T) {
	if fresh.Serve != 0 || fresh.ServeStale != 1 || fresh.Validate != 2 {
		t.Error(fresh.Serve, fresh.ServeStale, fresh.Validate)
	}
}

// minute: an entry that is fresh for 60 seconds from second 1,000 on, with more directives.
func minute(directives string) api.Entry {
	return entry(200, "Date", at(1000), "Cache-Control", "max-age=60"+directives)
}

func TestJudgeOfTheChaptersExamples(t *testing.T) {
	wantJudge(t, none(), minute(""), 1030, fresh.Serve)
	wantJudge(t, none(), minute(""), 1060, fresh.Validate)
	wantJudge(t, with(func(c *api.Control) { c.MaxStale = 5 }), minute(""), 1060, fresh.ServeStale)
}

func TestJudgeByWhatIsLeft(t *testing.T) {
	for left := -100; left <= 60; left++ {
		want := fresh.Validate
		if left > 0 {
			want = fresh.Serve
		}
		wantJudge(t, none(), minute(""), 1060-left, want)
		wantJudge(t, none(), minute(", must-revalidate"), 1060-left, want)
		wantJudge(t, none(), entry(200, "Cache-Control", "s-maxage=60"), 1060-left, want)
	}
}

func TestNoCacheComesFirst(t *testing.T) {
	asked := with(func(c *api.Control) { c.NoCache, c.MaxStale, c.MaxAge = true, ageCap, ageCap })
	for left := -1; left <= 1; left++ {
		now := 1060 - left
		wantJudge(t, asked, minute(""), now, fresh.Validate)
		wantJudge(t, with(func(c *api.Control) { c.MaxStale = ageCap }), minute(", no-cache"), now, fresh.Validate)
		wantJudge(t, none(), minute(", No-Cache=\"X\""), now, fresh.Validate)
		wantJudge(t, asked, minute(", no-cache"), now, fresh.Validate)
		old := entry(200, "Expires", at(1060), "Pragma", "x, No-Cache")
		wantJudge(t, with(func(c *api.Control) { c.MaxStale = ageCap }), old, now, fresh.Validate)
	}
	wantJudge(t, none(), minute(""), 1000, fresh.Serve)
	wantJudge(t, with(func(c *api.Control) {
		c.NoStore, c.Private, c.Public, c.Must, c.OnlyIfCached, c.SMaxAge = true, true, true, true, true, 0
	}), minute(", no-store, private, public, only-if-cached"), 1000, fresh.Serve)
}

func TestMaxAgeOfTheRequest(t *testing.T) {
	for left := -1; left <= 1; left++ {
		age := 60 - left
		for limit := age - 3; limit <= age+3; limit++ {
			c := with(func(c *api.Control) { c.MaxAge, c.MaxStale = limit, ageCap })
			want := fresh.ServeStale
			switch {
			case age > limit:
				want = fresh.Validate
			case left > 0:
				want = fresh.Serve
			}
			wantJudge(t, c, minute(""), 1000+age, want)
		}
	}
	wantJudge(t, with(func(c *api.Control) { c.MaxAge = 0 }), minute(""), 1000, fresh.Serve)
	wantJudge(t, with(func(c *api.Control) { c.MaxAge = 0 }), minute(""), 1001, fresh.Validate)
}

func TestMinFreshOfTheRequest(t *testing.T) {
	for left := -3; left <= 3; left++ {
		for least := -4; least <= 4; least++ {
			c := with(func(c *api.Control) { c.MinFresh, c.MaxStale = least, ageCap })
			want := fresh.ServeStale
			switch {
			case least != -1 && left < least:
				want = fresh.Validate
			case left > 0:
				want = fresh.Serve
			}
			wantJudge(t, c, minute(""), 1060-left, want)
		}
	}
	wantJudge(t, with(func(c *api.Control) { c.MinFresh = 60 }), minute(""), 1000, fresh.Serve)
	wantJudge(t, with(func(c *api.Control) { c.MinFresh = 61 }), minute(""), 1000, fresh.Validate)
}

func TestMaxStaleOfTheRequest(t *testing.T) {
	for left := -5; left <= 1; left++ {
		for most := -3; most <= 6; most++ {
			c := with(func(c *api.Control) { c.MaxStale = most })
			want := fresh.Validate
			switch {
			case left > 0:
				want = fresh.Serve
			case most >= -left:
				want = fresh.ServeStale
			}
			wantJudge(t, c, minute(""), 1060-left, want)
			if left <= 0 {
				want = fresh.Validate
			}
			for _, must := range []string{", must-revalidate", ", proxy-revalidate", ", MUST-revalidate=x", ", s-maxage=60"} {
				wantJudge(t, c, minute(must), 1060-left, want)
			}
		}
	}
	e := entry(200, "Cache-Control", "s-maxage=0")
	wantJudge(t, with(func(c *api.Control) { c.MaxStale = ageCap }), e, 1000, fresh.Validate)
	wantJudge(t, with(func(c *api.Control) { c.MaxStale = 0 }), entry(200, "Cache-Control", "max-age=0"), 1000, fresh.ServeStale)
	wantJudge(t, with(func(c *api.Control) { c.MaxStale = 0 }), entry(200), 1000, fresh.ServeStale)
	wantJudge(t, with(func(c *api.Control) { c.MaxStale, c.Must, c.SMaxAge = 0, true, 0 }), entry(200), 1000, fresh.ServeStale)
}

func TestNumbersOfTheRequestBelowMinusOne(t *testing.T) {
	for _, low := range []int{-2, -3, -ageCap, math.MinInt + 1, math.MinInt} {
		for left := -3; left <= 60; left++ {
			now := 1060 - left
			// Any age is above such a MaxAge, and no staleness is at most such a MaxStale.
			wantJudge(t, with(func(c *api.Control) { c.MaxAge, c.MaxStale = low, ageCap }), minute(""), now, fresh.Validate)
			want := fresh.Validate
			if left > 0 {
				want = fresh.Serve
			}
			wantJudge(t, with(func(c *api.Control) { c.MaxStale = low }), minute(""), now, want)
			wantJudge(t, with(func(c *api.Control) { c.SMaxAge = low }), minute(""), now, want)
			if left < 1 {
				want = fresh.ServeStale
			}
			if left < low {
				want = fresh.Validate
			}
			wantJudge(t, with(func(c *api.Control) { c.MinFresh, c.MaxStale = low, ageCap }), minute(""), now, want)
		}
	}
}

func TestGreatNumbersOfTheRequest(t *testing.T) {
	great := with(func(c *api.Control) { c.MaxAge, c.MaxStale = math.MaxInt, math.MaxInt })
	for _, now := range []int{math.MinInt, 0, 1059} {
		wantJudge(t, great, minute(""), now, fresh.Serve)
	}
	for _, now := range []int{1060, timeCap, math.MaxInt} {
		wantJudge(t, great, minute(""), now, fresh.ServeStale)
		wantJudge(t, great, timed(math.MinInt, math.MinInt, "Age", "9999999999").Entry, now, fresh.ServeStale)
	}
	wantJudge(t, with(func(c *api.Control) { c.MaxStale = ageCap }), minute(""), 1060+ageCap, fresh.ServeStale)
	wantJudge(t, with(func(c *api.Control) { c.MaxStale = ageCap }), minute(""), 1061+ageCap, fresh.Validate)
	wantJudge(t, with(func(c *api.Control) { c.MinFresh = math.MaxInt }), minute(""), 1000, fresh.Validate)
	// The Control of nothing but noughts has told them all.
	wantJudge(t, api.Control{}, minute(""), 1000, fresh.Serve)
	wantJudge(t, api.Control{}, minute(""), 1001, fresh.Validate)
}

func TestJudgeAsksThePolicy(t *testing.T) {
	stale := with(func(c *api.Control) { c.MaxStale = 0 })
	for left := -1; left <= 1; left++ {
		want := []int{fresh.Validate, fresh.ServeStale, fresh.Serve}[left+1]
		for _, c := range []struct {
			e api.Entry
			p api.Policy
		}{
			{entry(200), api.Policy{Min: 60, Max: 80}},
			{entry(200), api.Policy{Min: 80, Max: 60}},
			{entry(404), api.Policy{Negative: 60}},
			{entry(200, "Last-Modified", at(400)), api.Policy{Percent: 10, Max: 1000}},
		} {
			if got := fresh.Judge(stale, c.e, c.p, 1060-left); got != want {
				t.Errorf("Judge of %+v by %+v with %d left = %d; want %d", c.e, c.p, left, got, want)
			}
		}
	}
}

// P16.5: what is handed in is as it was

// roomy: a list with more behind its length.
func roomy(list []api.Field) (short, whole []api.Field) {
	whole = append(slices.Clone(list), pairs("Cache-Control", "No-Store, No-Cache", "Vary", "A, *", "Date", at(7), "Age", "5", "Range", "X", "Authorization", "X")...)
	return whole[:len(list)], whole
}

func TestWhatIsHandedInStaysAsItWas(t *testing.T) {
	for _, list := range [][]api.Field{
		nil,
		pairs("Cache-Control", "Max-Age=5, No-Cache=\"X\"", "Vary", "A, B", "DATE", at(1000)),
		pairs("EXPIRES", at(1100), "Age", "007", "Authorization", "X", "Range", "Bytes=0-1", "Pragma", "X, No-Cache"),
		pairs("Last-Modified", at(900), "date", " X ", "Vary", " *", "vary", "\"A"),
	} {
		asked, askedRoom := roomy(list)
		told, toldRoom := roomy(list)
		body := []byte("body and more")
		r := api.Request{Method: "GET", Target: "T", Minor: 1, Fields: asked}
		e := api.Entry{Key: "K", Vary: "V", Resp: api.Response{Status: 200, Reason: "R", Minor: 1, Fields: told}, Body: body[:4], Asked: -5, Got: 5000}
		before := slices.Clone(askedRoom)
		fresh.Storable(r, e.Resp)
		fresh.Lifetime(e, policy())
		fresh.Age(e, 6000)
		fresh.Judge(with(func(c *api.Control) { c.MaxStale = ageCap }), e, policy(), 6000)
		if !slices.Equal(askedRoom, before) || !slices.Equal(toldRoom, before) || string(body) != "body and more" {
			t.Errorf("%q became %q and %q", before, askedRoom, toldRoom)
		}
	}
}

func TestNothingBehindTheListsIsRead(t *testing.T) {
	for _, list := range [][]api.Field{nil, pairs("Expires", at(1060)), pairs("Cache-Control", "max-age=60", "Vary", "a")} {
		asked, _ := roomy(nil)
		told, _ := roomy(list)
		e := api.Entry{Resp: api.Response{Status: 200, Fields: told}, Asked: 1000, Got: 1000}
		plain := e
		plain.Resp.Fields = slices.Clip(slices.Clone(list))
		wantStorable(t, api.Request{Method: "GET", Fields: asked}, e.Resp, true)
		wantLifetime(t, e, policy(), fresh.Lifetime(plain, policy()))
		wantAge(t, e, 1001, 1)
		if got, want := fresh.Judge(none(), e, policy(), 1001), fresh.Judge(none(), plain, policy(), 1001); got != want || got != fresh.Serve {
			t.Errorf("Judge of %+v = %d; want %d", e, got, want)
		}
	}
}

// P1 and P2: calls end, and answer the same for the same

func TestLongLists(t *testing.T) {
	var list []string
	for range 20000 {
		list = append(list, "Cache-Control", "x, =,\"", "Vary", "a, \"*", "Warning", strings.Repeat("y", 50))
	}
	list = append(list, "Expires", at(1060), "Age", strings.Repeat("0", 100000)+"7", "Vary", "b")
	e := entry(200, list...)
	wantStorable(t, get(list...), e.Resp, true)
	wantLifetime(t, e, policy(), 60)
	wantAge(t, e, 1003, 10)
	wantJudge(t, none(), e, 1003, fresh.Serve)
	e.Resp.Fields = append(e.Resp.Fields, pairs("Vary", "*", "Cache-Control", "no-cache", "Expires", strings.Repeat("x", 1000000))...)
	wantStorable(t, get(list...), e.Resp, false)
	wantLifetime(t, e, policy(), 0)
	wantJudge(t, none(), e, 1003, fresh.Validate)
}

func TestCallsAnswerTheSameTwice(t *testing.T) {
	r := get("Authorization", "x")
	e := entry(404, "Date", at(990), "Last-Modified", at(5), "Age", "20", "Cache-Control", "public")
	answers := func() []any {
		return []any{fresh.Storable(r, e.Resp), fresh.Lifetime(e, policy()), fresh.Age(e, 1020), fresh.Judge(none(), e, policy(), 1009)}
	}
	first := answers()
	// Other calls between leave nothing that a later one could tell.
	fresh.Lifetime(entry(200, "Cache-Control", "s-maxage=9"), api.Policy{Min: 1})
	fresh.Judge(api.Control{NoCache: true}, entry(200), api.Policy{}, -1)
	if second := answers(); !reflect.DeepEqual(first, second) || !reflect.DeepEqual(first, []any{true, 30, 40, fresh.Serve}) {
		t.Errorf("%v and then %v", first, second)
	}
}
