package fresh_test

import (
	"math"
	"math/big"
	"math/rand"
	"strconv"
	"strings"
	"testing"

	"conduit/api"
	"conduit/control"
	"conduit/date"
	"conduit/fields"
	"conduit/fresh"
)

// A second reading of the chapter, sentence by sentence, in numbers without bounds.

func big64(n int) *big.Int { return big.NewInt(int64(n)) }

// between: a number brought into two bounds.
func between(n, low, high int) *big.Int {
	switch {
	case n < low:
		return big64(low)
	case n > high:
		return big64(high)
	}
	return big64(n)
}

// from: the seconds from a to b, 0 if b isn't above a.
func from(a, b *big.Int) *big.Int {
	if b.Cmp(a) <= 0 {
		return big64(0)
	}
	return new(big.Int).Sub(b, a)
}

// readOf: the second of a field, nil if it isn't read.
func readOf(s api.Response, name string) *big.Int {
	value, found := fields.Get(s.Fields, name)
	if !found {
		return nil
	}
	second, errno := date.Parse(value)
	if errno != api.OK {
		return nil
	}
	return big64(second)
}

func dateByWords(e api.Entry) *big.Int {
	if second := readOf(e.Resp, "Date"); second != nil {
		return second
	}
	return between(e.Got, 0, timeCap)
}

func storableByWords(r api.Request, s api.Response) bool {
	asked, told := control.Parse(r.Fields), control.Parse(s.Fields)
	_, expires := fields.Get(s.Fields, "Expires")
	_, authorization := fields.Get(r.Fields, "Authorization")
	_, ranged := fields.Get(r.Fields, "Range")
	kinds := map[int]string{200: "a", 203: "a", 300: "a", 301: "a", 404: "a", 405: "a", 410: "a", 414: "a", 501: "a", 302: "b", 307: "b"}
	lifetime := told.SMaxAge != -1 || told.MaxAge != -1 || expires
	if r.Method != "GET" || kinds[s.Status] == "" || kinds[s.Status] == "b" && !lifetime {
		return false
	}
	if asked.NoStore || told.NoStore || told.Private {
		return false
	}
	if authorization && !told.Public && !told.Must && told.SMaxAge == -1 {
		return false
	}
	for _, element := range fields.Tokens(s.Fields, "Vary") {
		if element == "*" {
			return false
		}
	}
	return !ranged || s.Status/100 != 2
}

func lifetimeByWords(e api.Entry, p api.Policy) *big.Int {
	told := control.Parse(e.Resp.Fields)
	if told.SMaxAge != -1 {
		return big64(told.SMaxAge)
	}
	if told.MaxAge != -1 {
		return big64(told.MaxAge)
	}
	made := dateByWords(e)
	if _, found := fields.Get(e.Resp.Fields, "Expires"); found {
		expires := readOf(e.Resp, "Expires")
		if expires == nil || expires.Cmp(made) <= 0 {
			return big64(0)
		}
		seconds := new(big.Int).Sub(expires, made)
		if seconds.Cmp(big64(ageCap)) > 0 {
			return big64(ageCap)
		}
		return seconds
	}
	if strings.Contains(" 404 405 410 414 501 ", " "+strconv.Itoa(e.Resp.Status)+" ") {
		return between(p.Negative, 0, ageCap)
	}
	least, most := between(p.Min, 0, ageCap), between(p.Max, 0, ageCap)
	seconds := least
	if changed := readOf(e.Resp, "Last-Modified"); changed != nil && changed.Cmp(made) <= 0 {
		seconds = new(big.Int).Sub(made, changed)
		seconds.Mul(seconds, between(p.Percent, 0, 100))
		seconds.Div(seconds, big64(100))
		if seconds.Cmp(least) < 0 {
			seconds = least
		}
	}
	if seconds.Cmp(most) > 0 {
		return most
	}
	return seconds
}

func ageByWords(e api.Entry, now int) *big.Int {
	asked, got := between(e.Asked, 0, timeCap), between(e.Got, 0, timeCap)
	value, _ := fields.Get(e.Resp.Fields, "Age")
	told := control.Seconds(value)
	if told == -1 {
		told = 0
	}
	first := from(dateByWords(e), got)
	second := new(big.Int).Add(big64(told), from(asked, got))
	if first.Cmp(second) < 0 {
		first = second
	}
	return new(big.Int).Add(first, from(got, between(now, 0, timeCap)))
}

func judgeByWords(c api.Control, e api.Entry, p api.Policy, now int) int {
	told := control.Parse(e.Resp.Fields)
	age := ageByWords(e, now)
	left := new(big.Int).Sub(lifetimeByWords(e, p), age)
	if c.NoCache || told.NoCache {
		return 2
	}
	if c.MaxAge != -1 && age.Cmp(big64(c.MaxAge)) > 0 {
		return 2
	}
	if c.MinFresh != -1 && left.Cmp(big64(c.MinFresh)) < 0 {
		return 2
	}
	if left.Sign() > 0 {
		return 0
	}
	if told.Must || told.SMaxAge != -1 {
		return 2
	}
	if c.MaxStale != -1 && new(big.Int).Neg(left).Cmp(big64(c.MaxStale)) <= 0 {
		return 1
	}
	return 2
}

func wantAsOracle(t *testing.T, r api.Request, c api.Control, e api.Entry, p api.Policy, now int) {
	t.Helper()
	wantStorable(t, r, e.Resp, storableByWords(r, e.Resp))
	wantLifetime(t, e, p, int(lifetimeByWords(e, p).Int64()))
	wantAge(t, e, now, int(ageByWords(e, now).Int64()))
	if got, want := fresh.Judge(c, e, p, now), judgeByWords(c, e, p, now); got != want {
		t.Errorf("Judge(%+v, %+v, %+v, %d) = %d; want %d", c, e, p, now, got, want)
	}
}

// everyList: all lists of at most n fields out of some.
func everyList(n int, some []api.Field) [][]api.Field {
	all := [][]api.Field{nil}
	for from := 0; n > 0; n-- {
		to := len(all)
		for _, list := range all[from:to] {
			for _, field := range some {
				all = append(all, append(append([]api.Field(nil), list...), field))
			}
		}
		from = to
	}
	return all
}

// sorts: fields of each kind that the chapter asks for.
func sorts() []api.Field {
	return pairs(
		"Cache-Control", "max-age=60", "cache-control", "s-maxage=50", "Cache-Control", "no-cache", "Cache-Control", "no-store", "Cache-Control", "private",
		"Cache-Control", "public", "Cache-Control", "must-revalidate", "Cache-Control", "", "Pragma", "no-cache",
		"Expires", at(1070), "Expires", "0", "expires", at(990), "Last-Modified", at(100), "Last-Modified", at(1100), "last-modified", "x",
		"Date", at(1000), "Date", at(1010), "date", at(980), "Date", "x", "Age", "20", "AGE", "x", "Vary", "*", "vary", "a", "Authorization", "x", "Range", "x",
	)
}

// wishes: what requests tell.
func wishes() []api.Control {
	return []api.Control{
		none(), {}, with(func(c *api.Control) { c.NoCache = true }), with(func(c *api.Control) { c.MaxAge = 30 }), with(func(c *api.Control) { c.MinFresh = 20 }),
		with(func(c *api.Control) { c.MaxStale = 15 }), with(func(c *api.Control) { c.MaxStale, c.MaxAge = ageCap, 75 }), with(func(c *api.Control) { c.MaxStale, c.MinFresh = ageCap, -20 }),
	}
}

func TestAllShortListsOfTheResponse(t *testing.T) {
	p := api.Policy{Min: 5, Percent: 10, Max: 80, Negative: 30}
	asked := []api.Request{get(), get("Authorization", "x"), get("Range", "x"), get("Cache-Control", "no-store"), {Method: "HEAD"}}
	all := everyList(3, sorts())
	for i, list := range all {
		e := api.Entry{Resp: api.Response{Status: []int{200, 206, 302, 404}[i%4], Fields: list}, Asked: 995, Got: 1005}
		for j, c := range wishes() {
			wantAsOracle(t, asked[(i+j)%len(asked)], c, e, p, 1020+13*j)
		}
	}
}

func TestAllShortListsOfTheRequest(t *testing.T) {
	for _, list := range everyList(2, sorts()) {
		for _, telling := range everyList(1, sorts()) {
			for _, status := range []int{200, 204, 299, 300, 302, 307, 404} {
				r, s := api.Request{Method: "GET", Fields: list}, api.Response{Status: status, Fields: telling}
				wantStorable(t, r, s, storableByWords(r, s))
			}
		}
	}
}

// anyNumber: a number near one of those at which answers change, or any.
func anyNumber(chance *rand.Rand) int {
	near := []int{0, 100, 1000, ageCap, timeCap, -ageCap, math.MaxInt - 3, math.MinInt + 3, chance.Intn(2000), chance.Intn(timeCap), int(chance.Uint64())}
	return near[chance.Intn(len(near))] + chance.Intn(7) - 3
}

func anyField(chance *rand.Rand) api.Field {
	some := sorts()
	if chance.Intn(3) > 0 {
		return some[chance.Intn(len(some))]
	}
	second := min(max(anyNumber(chance), 0), timeCap)
	dated := []string{"Date", "Expires", "Last-Modified"}
	if chance.Intn(3) > 0 {
		return api.Field{Name: dated[chance.Intn(3)], Value: at(second)}
	}
	number := strconv.Itoa(anyNumber(chance))
	return pairs("Age", number, "Cache-Control", "max-age="+number, "Cache-Control", "s-maxage="+number)[chance.Intn(3)]
}

func anyList(chance *rand.Rand) []api.Field {
	var list []api.Field
	for range chance.Intn(5) {
		list = append(list, anyField(chance))
	}
	return list
}

func TestManyEntries(t *testing.T) {
	chance := rand.New(rand.NewSource(16))
	for range 60000 {
		c := wishes()[chance.Intn(len(wishes()))]
		for _, number := range []*int{&c.MaxAge, &c.MinFresh, &c.MaxStale} {
			if chance.Intn(3) == 0 {
				*number = anyNumber(chance)
			}
		}
		e := api.Entry{Resp: api.Response{Status: 200 + chance.Intn(320), Fields: anyList(chance)}, Asked: anyNumber(chance), Got: anyNumber(chance)}
		if chance.Intn(2) == 0 {
			e.Resp.Status = []int{200, 302, 404}[chance.Intn(3)]
		}
		p := api.Policy{Min: anyNumber(chance), Percent: anyNumber(chance), Max: anyNumber(chance), Negative: anyNumber(chance)}
		wantAsOracle(t, api.Request{Method: "GET", Fields: anyList(chance)}, c, e, p, anyNumber(chance))
	}
}

func FuzzJudge(f *testing.F) {
	f.Add("max-age=60", "Date", at(1000), "Expires", at(1100), 200, 1000, 1000, 1030, 10, 5)
	f.Add("s-maxage=\"7\", private", "Age", "20", "Last-Modified", at(100), 404, -1, math.MaxInt, timeCap, -1, ageCap)
	f.Fuzz(func(t *testing.T, value, name, text, other, second string, status, asked, got, now, least, most int) {
		e := api.Entry{Resp: answer(status, "Cache-Control", value, name, text, other, second), Asked: asked, Got: got}
		r := get("Cache-Control", second, name, value)
		p := api.Policy{Min: least, Percent: now, Max: most, Negative: asked}
		c := api.Control{MaxAge: most, MinFresh: least, MaxStale: asked}
		wantAsOracle(t, r, c, e, p, now)
		wantAsOracle(t, r, control.Parse(r.Fields), e, p, now)
		e.Resp.Fields = e.Resp.Fields[1:]
		wantAsOracle(t, r, none(), e, p, now)
	})
}
