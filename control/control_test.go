package control_test

import (
	"slices"
	"strconv"
	"strings"
	"testing"

	"conduit/api"
	"conduit/control"
)

const ageCap = 2_147_483_648

// none: what is told where there is nothing.
func none() api.Control {
	return api.Control{MaxAge: -1, SMaxAge: -1, MinFresh: -1, MaxStale: -1}
}

// with: none, changed.
func with(change func(c *api.Control)) api.Control {
	c := none()
	change(&c)
	return c
}

// pairs: the fields of names and values by turns.
func pairs(texts ...string) []api.Field {
	var list []api.Field
	for i := 0; i < len(texts); i += 2 {
		list = append(list, api.Field{Name: texts[i], Value: texts[i+1]})
	}
	return list
}

// told: a field Cache-Control for each value.
func told(values ...string) []api.Field {
	var list []api.Field
	for _, value := range values {
		list = append(list, api.Field{Name: "Cache-Control", Value: value})
	}
	return list
}

func wantSeconds(t *testing.T, want int, texts ...string) {
	t.Helper()
	for _, s := range texts {
		if got := control.Seconds(s); got != want {
			t.Errorf("Seconds(%q) = %d; want %d", s, got, want)
		}
	}
}

func wantParse(t *testing.T, list []api.Field, want api.Control) {
	t.Helper()
	if got := control.Parse(list); got != want {
		t.Errorf("Parse(%q) = %+v; want %+v", list, got, want)
	}
}

// everyText: all texts of at most n parts out of an alphabet of parts.
func everyText(n int, alphabet ...string) []string {
	all := []string{""}
	for from := 0; n > 0; n-- {
		to := len(all)
		for _, s := range all[from:to] {
			for _, part := range alphabet {
				all = append(all, s+part)
			}
		}
		from = to
	}
	return all
}

// P15.1: Seconds

func TestSeconds(t *testing.T) {
	for s, want := range map[string]int{
		"0": 0, "1": 1, "9": 9, "10": 10, "60": 60, "123456789": 123456789, "1987654320": 1987654320,
		"00": 0, "007": 7, "0000000000000000000000000": 0, "00000000000000000000000000000060": 60,
	} {
		wantSeconds(t, want, s)
	}
	for number := range 5000 {
		wantSeconds(t, number, strconv.Itoa(number), "0"+strconv.Itoa(number))
	}
}

func TestSecondsOfWhatIsNoNumber(t *testing.T) {
	wantSeconds(t, -1,
		"", " ", "\t", "-", "+", "-1", "+1", "-0", "1-", "1+", "1-1", " 1", "1 ", "\t1", "1\t", "1 1", "a", "a1", "1a", "1a1",
		"1.5", "1,5", "1_000", "0x10", "1e3", "\"1\"", "1\r", "1\n", "\x001", "1\x00", "infinity", "-1x", "1=",
		"٣", "１", "1１", "\xff", "/", ":", "1/", "1:", "/1", ":1",
	)
}

func TestSecondsOfEachByte(t *testing.T) {
	for c := range 256 {
		text := string([]byte{byte(c)})
		want := -1
		if '0' <= c && c <= '9' {
			want = c - '0'
		}
		wantSeconds(t, want, text)
		if want < 0 {
			wantSeconds(t, -1, text+"12", "1"+text+"2", "12"+text)
		}
	}
}

func TestSecondsAboutTheCap(t *testing.T) {
	for number := ageCap - 1000; number < ageCap; number++ {
		wantSeconds(t, number, strconv.Itoa(number))
	}
	for number := ageCap; number < ageCap+1000; number++ {
		wantSeconds(t, ageCap, strconv.Itoa(number))
	}
	wantSeconds(t, 2_147_483_647, "2147483647", "0002147483647", strings.Repeat("0", 100000)+"2147483647")
	wantSeconds(t, ageCap, "2147483648", "2147483649", "2147483650", "3000000000", "9999999999", "0002147483649")
}

// Numbers that would wrap to small ones, or below 0, are cut all the same.
func TestSecondsOfManyDigits(t *testing.T) {
	wantSeconds(t, ageCap,
		"4294967296", "4294967301", "9223372036854775807", "9223372036854775808", "9223372036854775813",
		"18446744073709551615", "18446744073709551616", "18446744073709551621", "36893488147419103237",
		"340282366920938463463374607431768211461",
	)
	for length := 11; length < 200; length++ {
		for _, digit := range []string{"0", "1", "5", "9"} {
			wantSeconds(t, ageCap, "1"+strings.Repeat(digit, length), "9"+strings.Repeat(digit, length))
		}
	}
	long := strings.Repeat("9876543210", 100000)
	wantSeconds(t, ageCap, long)
	wantSeconds(t, -1, long+"x", long+" ", "x"+long, long+"-"+long, long+".")
}

// P15.2: Parse

func TestParseOfTheChaptersExamples(t *testing.T) {
	wantParse(t, told("Max-Age=5, no-cache=\"X\""), with(func(c *api.Control) { c.MaxAge, c.NoCache = 5, true }))
	wantParse(t, told("max-age=x"), with(func(c *api.Control) { c.MaxAge = 0 }))
	wantParse(t, told("max-age"), with(func(c *api.Control) { c.MaxAge = 0 }))
	wantParse(t, told("max-stale"), with(func(c *api.Control) { c.MaxStale = ageCap }))
	wantParse(t, told("max-stale=x"), none())
	wantParse(t, told("max-age=5, max-age=6"), with(func(c *api.Control) { c.MaxAge = 5 }))
	wantParse(t, told("max-age=\"7\""), with(func(c *api.Control) { c.MaxAge = 7 }))
	wantParse(t, pairs("Other", "max-age=5"), none())
}

func TestParseOfNoField(t *testing.T) {
	for _, list := range [][]api.Field{nil, {}, told("no-store")[:0], pairs("", ""), pairs("", "no-store", "Cache", "no-store", "Control", "no-store")} {
		wantParse(t, list, none())
	}
}

// flags: the words that are told by being there, and what each of them sets.
func flags() map[string]func(c *api.Control) {
	must := func(c *api.Control) { c.Must = true }
	return map[string]func(c *api.Control){
		"no-store":         func(c *api.Control) { c.NoStore = true },
		"no-cache":         func(c *api.Control) { c.NoCache = true },
		"private":          func(c *api.Control) { c.Private = true },
		"public":           func(c *api.Control) { c.Public = true },
		"only-if-cached":   func(c *api.Control) { c.OnlyIfCached = true },
		"must-revalidate":  must,
		"proxy-revalidate": must,
	}
}

func title(name string) string {
	return strings.ToUpper(name[:1]) + name[1:]
}

func TestEachFlag(t *testing.T) {
	for name, change := range flags() {
		want := with(change)
		for _, spelled := range []string{name, strings.ToUpper(name), title(name)} {
			for _, argument := range []string{"", "=", "=x", "=0", "==", "=x=y", "= x", "=\"\"", "=\"X, y\"", "=\"x\\\"\"", "=\"x", "=\"x\"y", "=\"", "=\"\\"} {
				wantParse(t, told(spelled+argument), want)
				wantParse(t, told(" "+spelled+argument+"\t"), want)
				wantParse(t, told("a, ,"+spelled+argument), want)
				wantParse(t, told("a=b", spelled+argument, "c"), want)
			}
		}
		wantParse(t, told(name+","+name), want)
	}
}

func TestWordsThatAreNearToAFlag(t *testing.T) {
	for name := range flags() {
		wantParse(t, told(name+" =x"), none())
		wantParse(t, told(name+"\t="), none())
		wantParse(t, told(name+" x"), none())
		wantParse(t, told(name+";x"), none())
		wantParse(t, told("\""+name+"\""), none())
		wantParse(t, told("\\"+name), none())
		wantParse(t, told(name+"-"), none())
		wantParse(t, told("x-"+name), none())
		wantParse(t, told("="+name), none())
		wantParse(t, told(name[1:]), none())
		wantParse(t, told(name[:len(name)-1]), none())
		wantParse(t, told(strings.ReplaceAll(name, "-", "_")+"_"), none())
		wantParse(t, told("x="+name), none())
		wantParse(t, told("x=\"a, "+name+"\""), none())
		wantParse(t, told(name+"\x00"), none())
		wantParse(t, told("\xa0"+name), none())
	}
	wantParse(t, told("revalidate, must, proxy, store, cache, if-cached, no-transform, immutable"), none())
}

// A name's letters are folded one by one: a letter that only looks like one of them, or that Unicode folds to it, is another.
func TestNamesAreFoldedByLettersAlone(t *testing.T) {
	for _, near := range []string{
		"no-\u017ftore", "\u017f-maxage=1", "max-\u017ftale", "no\u2011cache", "no\x0dcache", "maxMage=1",
		"pr\u0130vate", "publ\u0130c", "m\u0130n-fresh=1", "only-\u0130f-cached", "must-reval\u0130date", "proxy-reval\u0130date",
	} {
		wantParse(t, told(near), none())
	}
	wantParse(t, told("NO-STORE, nO-cAcHe, S-MAXAGE=1, MaX-aGe=2, MIN-FRESH=3, Max-Stale=4"), with(func(c *api.Control) {
		c.NoStore, c.NoCache = true, true
		c.SMaxAge, c.MaxAge, c.MinFresh, c.MaxStale = 1, 2, 3, 4
	}))
}

// numbers: the names that tell a number, and what sets it.
func numbers() map[string]func(c *api.Control, n int) {
	return map[string]func(c *api.Control, n int){
		"max-age":   func(c *api.Control, n int) { c.MaxAge = n },
		"s-maxage":  func(c *api.Control, n int) { c.SMaxAge = n },
		"min-fresh": func(c *api.Control, n int) { c.MinFresh = n },
		"max-stale": func(c *api.Control, n int) { c.MaxStale = n },
	}
}

func wantNumber(t *testing.T, name string, number int, values ...string) {
	t.Helper()
	want := none()
	numbers()[name](&want, number)
	wantParse(t, told(values...), want)
}

// goodArguments: what stands behind a name, and the number that it tells.
func goodArguments() map[string]int {
	return map[string]int{
		"=0": 0, "=5": 5, "=05": 5, "=2147483647": 2147483647, "=2147483648": ageCap, "=2147483649": ageCap,
		"=99999999999999999999999999999999999999999": ageCap, "=18446744073709551617": ageCap,
		"=\"7\"": 7, "=\"007\"": 7, "=\"\\7\"": 7, "=\"\\1\\2\"": 12, "=\"1\\2\"": 12, "=\"2147483649\"": ageCap,
	}
}

// badArguments: what stands behind a name and tells no number, but is an argument.
func badArguments() []string {
	return []string{
		"=", "=x", "=-1", "=+1", "=1.5", "=5x", "=x5", "= 5", "=\t5", "=5 5", "==", "==5", "=5=", "=5=6", "=5;x",
		"=\"\"", "=\"x\"", "=\" 5\"", "=\"5 \"", "=\"-1\"", "=\"5,6\"", "=\"5=6\"", "=\"\\\"5\\\"\"",
		"=\"5", "=\"", "=\"\\", "=\"5\\", "=\"5\\\"", "=\"5\"6", "=\"5\" 6", "=\"5\"\"6\"", "=\"5\"=", "=\"\x00\"", "=\"5\x7f\"",
		"= \"5\"", "=x\"5\"", "=5\"6\"", "=5\"", "=5\"6, x\"", "=\\5", "='5'", "=\x00", "=5\x00", "=\xff",
	}
}

func TestEachNumber(t *testing.T) {
	for name := range numbers() {
		for _, spelled := range []string{name, strings.ToUpper(name), title(name)} {
			for argument, number := range goodArguments() {
				wantNumber(t, name, number, spelled+argument)
				wantNumber(t, name, number, "a, ,\t"+spelled+argument+" ,b")
				wantNumber(t, name, number, "a", "", spelled+argument)
			}
			bad := 0
			if name == "max-stale" {
				bad = -1
			}
			for _, argument := range badArguments() {
				wantNumber(t, name, bad, spelled+argument)
				wantNumber(t, name, bad, "a,"+spelled+argument)
				wantNumber(t, name, bad, "a", spelled+argument, "b")
			}
		}
	}
}

func TestNumbersWithoutAnArgument(t *testing.T) {
	for name := range numbers() {
		number := 0
		if name == "max-stale" {
			number = ageCap
		}
		for _, spelled := range []string{name, strings.ToUpper(name), " " + title(name) + "\t"} {
			wantNumber(t, name, number, spelled)
			wantNumber(t, name, number, "a,"+spelled+",b=5")
			wantNumber(t, name, number, spelled+", 5")
			wantNumber(t, name, number, spelled, "=5")
		}
	}
}

func TestWordsThatAreNearToANumber(t *testing.T) {
	for name := range numbers() {
		for _, near := range []string{
			name + " =5", name + "\t=5", name + " = 5", name + " 5", name + ":5", name + "5", name + ";=5", "x" + name + "=5", name + "x=5",
			"\"" + name + "\"=5", "\"" + name + "=5\"", "\"" + name + "=5", "=" + name + "=5", "x=" + name + "=5", "=5", "=", "==", "5",
			name[1:] + "=5", name[:len(name)-1] + "=5", strings.ReplaceAll(name, "-", "") + "=5", strings.ReplaceAll(name, "-", "_") + "=5",
			"x=\"a, " + name + "=5\"", "x=\"a\\\", " + name + "=5",
		} {
			wantParse(t, told(near), none())
		}
	}
	wantParse(t, told("max-fresh=1, min-age=2, min-stale=3, smaxage=4, s-max-age=5, stale-if-error=6"), none())
}

func TestTheFirstDirectiveOfANameCounts(t *testing.T) {
	for name := range numbers() {
		absent, bad := 0, 0
		if name == "max-stale" {
			absent, bad = ageCap, -1
		}
		for ahead, number := range map[string]int{"=5": 5, "=\"5\"": 5, "=0": 0, "": absent, "=": bad, "=x": bad, "=\"6": bad, "=\"6\"x": bad} {
			for _, behind := range []string{"=6", "=\"6\"", "=x", "", "="} {
				// What is quoted and isn't ended takes the rest of its value with it: two values hold them apart.
				wantNumber(t, name, number, name+ahead, strings.ToUpper(name)+behind)
				wantNumber(t, name, number, "x", name+ahead, "y", name+behind, name+"=7")
				if ahead != "=\"6" {
					wantNumber(t, name, number, name+ahead+","+title(name)+behind)
					wantNumber(t, name, number, strings.ToUpper(name)+ahead+" , x=1,,"+name+behind+","+name+"=7")
				}
			}
		}
		wantNumber(t, name, 6, name+" =5, "+name+"=6")
		wantNumber(t, name, 6, "x=\""+name+"=5\", "+name+"=6")
	}
}

func TestEachNameHasItsOwnNumber(t *testing.T) {
	want := with(func(c *api.Control) { c.MaxAge, c.SMaxAge, c.MinFresh, c.MaxStale = 1, 2, 3, 4 })
	all := []string{"max-age=1", "s-maxage=2", "min-fresh=3", "max-stale=4"}
	for range len(all) {
		all = append(all[1:], all[0])
		wantParse(t, told(strings.Join(all, ",")), want)
		wantParse(t, told(all...), want)
		wantParse(t, told(strings.Join(all, ", ")+", max-age=5, s-maxage=6, min-fresh=7, max-stale=8"), want)
	}
}

func TestSeveralFieldsAndEmptyElements(t *testing.T) {
	want := with(func(c *api.Control) { c.NoStore, c.Private, c.MaxAge = true, true, 5 })
	for _, values := range [][]string{
		{"no-store, private, max-age=5"},
		{"no-store", "private", "max-age=5"},
		{"", "no-store", "", "private,max-age=5", ""},
		{",,", "\t, no-store ,, ,private,", " ", ",max-age=5,"},
		{"max-age=5, max-age=6", "private", "max-age=7, no-store"},
	} {
		wantParse(t, told(values...), want)
	}
	wantParse(t, pairs("CACHE-CONTROL", "no-store", "X", "public", "cache-control", "private", "Cache-control", "max-age=5", "Cache-Controls", "no-cache", "Cache-Control ", "public"), want)
	for _, value := range []string{"", " ", ",", " ,\t, ", "x", "=", "\"", "\"no-store", "\"a, no-store\""} {
		wantParse(t, told(value), none())
		wantParse(t, told(value, value), none())
	}
}

func TestCommasWithinQuotes(t *testing.T) {
	wantParse(t, told("no-cache=\"a, no-store, max-age=5\", private"), with(func(c *api.Control) { c.NoCache, c.Private = true, true }))
	wantParse(t, told("x=\"a\\\", no-store\", public"), with(func(c *api.Control) { c.Public = true }))
	wantParse(t, told("x=\"a\\\\\", no-store, \"public\""), with(func(c *api.Control) { c.NoStore = true }))
	wantParse(t, told("max-age=\"5, no-store"), with(func(c *api.Control) { c.MaxAge = 0 }))
	wantParse(t, told("max-age=\"5", "no-store\""), with(func(c *api.Control) { c.MaxAge = 0 }))
	wantParse(t, told("max-age=\"5", "no-store, \""), with(func(c *api.Control) { c.MaxAge, c.NoStore = 0, true }))
	wantParse(t, told("x=\"", "no-store", "\""), with(func(c *api.Control) { c.NoStore = true }))
}

func TestPragmaWithoutCacheControl(t *testing.T) {
	asked := with(func(c *api.Control) { c.NoCache = true })
	for _, list := range [][]api.Field{
		pairs("Pragma", "no-cache"), pairs("pragma", "No-Cache"), pairs("PRAGMA", " NO-CACHE\t"), pairs("Pragma", "x, ,no-cache, y"),
		pairs("Pragma", "x", "pragma", "", "Pragma", "no-cache"), pairs("Pragma", "\"x", "Pragma", "no-cache"), pairs("Pragma", "no-cache", "Pragma", "x"),
		pairs("Host", "a", "Pragma", "no-cache", "Cache", "x"), pairs("Cache-Control ", "x", "Pragma", "no-cache"), pairs("Cache-Contro", "", "Pragma", "no-cache"),
	} {
		wantParse(t, list, asked)
	}
	for _, list := range [][]api.Field{
		pairs("Pragma", ""), pairs("Pragma", "x"), pairs("Pragma", "no-cache=x"), pairs("Pragma", "no-cache="), pairs("Pragma", "\"no-cache\""), pairs("Pragma", "no-cache x"),
		pairs("Pragma", "\"x, no-cache\""), pairs("Pragma", "x=no-cache"), pairs("Pragma ", "no-cache"), pairs("Pragmas", "no-cache"), pairs("no-cache", "Pragma"),
		pairs("Pragma", "no-store, private, public, only-if-cached, must-revalidate, max-age=5, s-maxage=5, min-fresh=5, max-stale"),
	} {
		wantParse(t, list, none())
	}
}

func TestPragmaBesideCacheControl(t *testing.T) {
	for _, name := range []string{"Cache-Control", "cache-control", "CACHE-CONTROL"} {
		for _, value := range []string{"", " ", ",", "x", "\"no-cache", "no-cache =x"} {
			wantParse(t, pairs(name, value, "Pragma", "no-cache"), none())
			wantParse(t, pairs("Pragma", "no-cache", name, value), none())
			wantParse(t, pairs("Pragma", "no-cache", name, value, "Pragma", "no-cache", name, ""), none())
		}
		wantParse(t, pairs(name, "max-age=5", "Pragma", "no-cache"), with(func(c *api.Control) { c.MaxAge = 5 }))
		wantParse(t, pairs(name, "no-cache", "Pragma", "x"), with(func(c *api.Control) { c.NoCache = true }))
		wantParse(t, pairs(name, "", "Pragma", "no-cache", name, "no-cache"), with(func(c *api.Control) { c.NoCache = true }))
	}
}

// P15.3: the list is as it was

func TestTheListStaysAsItWas(t *testing.T) {
	for _, list := range [][]api.Field{
		nil,
		told("Max-Age=5, No-Cache=\"X\"", "", " MAX-STALE "),
		pairs("Pragma", "X, No-Cache", "Host", "A"),
		pairs("CACHE-CONTROL", "Max-Age=\"\\7\"", "Pragma", "No-Cache", "cache-control", "\"x"),
	} {
		room := append(slices.Clone(list), pairs("Behind", "No-Store", "Cache-Control", "No-Store")...)
		before := slices.Clone(room)
		control.Parse(room[:len(list)])
		if !slices.Equal(room, before) {
			t.Errorf("%q became %q", before, room)
		}
	}
}

func TestNothingBehindTheListIsRead(t *testing.T) {
	room := pairs("Cache-Control", "max-age=5", "Cache-Control", "no-store", "Pragma", "no-cache")
	wantParse(t, room[:1], with(func(c *api.Control) { c.MaxAge = 5 }))
	wantParse(t, room[:0], none())
}

// P1 and P2: calls end, and answer the same for the same

func TestLongLists(t *testing.T) {
	var list []api.Field
	for range 20000 {
		list = append(list, pairs("Cache-Control", "x, =,\"", "Pragma", "no-cache", "Cache-Control", strings.Repeat("y=\"z,\",", 20))...)
	}
	wantParse(t, list, none())
	wantParse(t, append(list, told("max-age="+strings.Repeat("0", 100000)+"5, private")...), with(func(c *api.Control) { c.MaxAge, c.Private = 5, true }))
	wantParse(t, told(strings.Repeat("=", 1000000)), none())
	wantParse(t, told(strings.Repeat(",", 1000000)+"max-stale"), with(func(c *api.Control) { c.MaxStale = ageCap }))
	wantParse(t, told("max-age=\""+strings.Repeat("\\0", 500000)+"5\""), with(func(c *api.Control) { c.MaxAge = 5 }))
}

func TestCallsAnswerTheSameTwice(t *testing.T) {
	for _, value := range everyText(4, "max-age", "=", "\"", ",", "5", " ") {
		list := pairs("Cache-Control", value, "Pragma", value)
		if control.Parse(list) != control.Parse(list) || control.Seconds(value) != control.Seconds(value) {
			t.Errorf("two answers for %q", value)
		}
	}
}
