package control_test

import (
	"math/big"
	"regexp"
	"strings"
	"testing"

	"conduit/api"
	"conduit/control"
)

// A second reading of the chapter, by patterns instead of the layers below; all texts are taken byte by byte.
var (
	anElement  = regexp.MustCompile(`^(?:[^,"]|"(?:[^"\\]|\\[\x00-\xff])*(?:"|\\?$))*`)
	aDirective = regexp.MustCompile(`(?s)^([^=]*)(=)?(.*)$`)
	aQuoted    = regexp.MustCompile(`^"(?:[\t !#-\[\]-~\x80-\xff]|\\[\t -~\x80-\xff])*"$`)
	aPair      = regexp.MustCompile(`(?s)\\(.)`)
	aNumber    = regexp.MustCompile(`^[0-9]+$`)
)

// runes: the bytes of a text as runes, so that a pattern sees each one by itself.
func runes(s string) string {
	var b strings.Builder
	for i := range len(s) {
		b.WriteRune(rune(s[i]))
	}
	return b.String()
}

// small: a text of bytes as runes in small letters, of which A to Z alone have one.
func small(s string) string {
	return strings.Map(func(r rune) rune {
		if 'A' <= r && r <= 'Z' {
			return r + 32
		}
		return r
	}, s)
}

// elements: the elements of all values of a name, as runes.
func elements(list []api.Field, name string) (all []string, found bool) {
	for _, field := range list {
		if small(runes(field.Name)) != name {
			continue
		}
		found = true
		rest := runes(field.Value) + ","
		for rest != "" {
			element := anElement.FindString(strings.TrimSuffix(rest, ","))
			rest = strings.TrimPrefix(rest[len(element):], ",")
			if element = strings.Trim(element, " \t"); element != "" {
				all = append(all, element)
			}
		}
	}
	return all, found
}

func secondsByPattern(s string) int {
	if !aNumber.MatchString(s) {
		return -1
	}
	number, _ := new(big.Int).SetString(s, 10)
	if number.Cmp(big.NewInt(ageCap)) > 0 {
		return ageCap
	}
	return int(number.Int64())
}

func parseByPattern(list []api.Field) api.Control {
	all, found := elements(list, "cache-control")
	flags := map[string]bool{}
	numbers := map[string]int{"max-age": -1, "s-maxage": -1, "min-fresh": -1, "max-stale": -1}
	for _, element := range all {
		parts := aDirective.FindStringSubmatch(element)
		name, given, argument := small(parts[1]), parts[2] != "", parts[3]
		if strings.HasPrefix(argument, `"`) {
			if aQuoted.MatchString(argument) {
				argument = aPair.ReplaceAllString(argument[1:len(argument)-1], "$1")
			} else {
				argument = ""
			}
		}
		if _, isNumber := numbers[name]; isNumber && !flags[name] {
			number := secondsByPattern(argument)
			switch {
			case name == "max-stale" && !given:
				number = ageCap
			case name != "max-stale" && number == -1:
				number = 0
			}
			numbers[name] = number
		}
		flags[name] = true
	}
	if !found {
		words, _ := elements(list, "pragma")
		for _, word := range words {
			flags["no-cache"] = flags["no-cache"] || small(word) == "no-cache"
		}
	}
	return api.Control{
		NoStore: flags["no-store"], NoCache: flags["no-cache"], Private: flags["private"], Public: flags["public"],
		Must: flags["must-revalidate"] || flags["proxy-revalidate"], OnlyIfCached: flags["only-if-cached"],
		MaxAge: numbers["max-age"], SMaxAge: numbers["s-maxage"], MinFresh: numbers["min-fresh"], MaxStale: numbers["max-stale"],
	}
}

func wantAsOracle(t *testing.T, list []api.Field) {
	t.Helper()
	wantParse(t, list, parseByPattern(list))
}

func TestSecondsOfAllShortTexts(t *testing.T) {
	for _, s := range everyText(6, "0", "1", "9", "-", " ", "x") {
		wantSeconds(t, secondsByPattern(s), s)
	}
	for _, s := range everyText(5, "0", "2147483", "64", "8", "999999999") {
		wantSeconds(t, secondsByPattern(s), s)
	}
}

func TestParseOfAllShortValues(t *testing.T) {
	for _, name := range []string{"max-age", "Max-Stale"} {
		for _, value := range everyText(6, name, "=", "\"", "\\", ",", "5", " ") {
			wantAsOracle(t, told(value))
		}
	}
}

func TestParseOfAllShortRowsOfDirectives(t *testing.T) {
	for _, value := range everyText(4,
		"no-store,", "No-Cache=\"a,b\",", "private=x,", "PUBLIC,", "must-revalidate,", "proxy-revalidate=,", "only-if-cached,",
		"max-age=1,", "max-age,", "S-MaxAge=\"2\",", "s-maxage=x,", "min-fresh=3,", "max-stale,", "max-stale=4,", "x=\"", ",",
	) {
		wantAsOracle(t, told(value))
	}
}

func TestParseOfAllShortLists(t *testing.T) {
	fields := pairs("Cache-Control", "", "cache-control", "no-cache", "CACHE-CONTROL", "max-age=1, \"", "Cache-Control", "max-age=2",
		"Pragma", "no-cache", "pragma", "x, \"", "PRAGMA", "No-Cache, y", "X", "no-cache")
	lists := [][]api.Field{nil}
	for from := 0; len(lists) < 4000; {
		to := len(lists)
		for _, list := range lists[from:to] {
			for _, field := range fields {
				lists = append(lists, append(append([]api.Field(nil), list...), field))
			}
		}
		from = to
	}
	for _, list := range lists {
		wantAsOracle(t, list)
	}
}

func FuzzParse(f *testing.F) {
	for _, value := range []string{"Max-Age=5, no-cache=\"X\"", "max-stale=\"\\5\", x", "private=\"a,\"b, s-maxage=\"1", "\\\",=\xff\x00"} {
		f.Add("Cache-Control", value, "Pragma", "no-cache")
		f.Add("x", value, "pragma", value)
	}
	f.Fuzz(func(t *testing.T, name, value, other, second string) {
		list := pairs(name, value, other, second)
		wantAsOracle(t, list)
		wantAsOracle(t, pairs("Cache-Control", value, other, second))
		wantAsOracle(t, told(value, second))
		if got, want := control.Seconds(value), secondsByPattern(runes(value)); got != want {
			t.Errorf("Seconds(%q) = %d; want %d", value, got, want)
		}
	})
}
