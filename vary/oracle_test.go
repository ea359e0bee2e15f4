package vary_test

import (
	"math/rand"
	"regexp"
	"slices"
	"strings"
	"testing"

	"conduit/api"
	"conduit/vary"
)

// A second reading of the chapter, by patterns instead of the layers below; all texts are taken byte by byte.
var anElement = regexp.MustCompile(`^(?:[^,"]|"(?:[^"\\]|\\[\x00-\xff])*(?:"|\\?$))*`)

// runes: the bytes of a text as runes, so that a pattern sees each one by itself.
func runes(s string) string {
	var b strings.Builder
	for i := range len(s) {
		b.WriteRune(rune(s[i]))
	}
	return b.String()
}

// plain: the text whose bytes these runes are.
func plain(s string) string {
	var b []byte
	for _, r := range s {
		b = append(b, byte(r))
	}
	return string(b)
}

// small: a text of bytes as runes in small letters, of which A to Z alone have one.
func small(s string) string {
	return strings.Map(func(r rune) rune {
		if 'A' <= r && r <= 'Z' {
			return r + 32
		}
		return r
	}, s)
}

// elements: the elements of all values of a name (small, as runes), as runes, and whether there is a field of it.
func elements(list []api.Field, name string) (all []string, found bool) {
	for _, field := range list {
		if small(runes(field.Name)) != name {
			continue
		}
		found = true
		rest := runes(field.Value) + ","
		for rest != "" {
			element := anElement.FindString(strings.TrimSuffix(rest, ","))
			rest = strings.TrimPrefix(rest[len(element):], ",")
			if element = strings.Trim(element, " \t"); element != "" {
				all = append(all, element)
			}
		}
	}
	return all, found
}

func namesByPattern(list []api.Field) ([]string, bool) {
	words, _ := elements(list, "vary")
	var names []string
	for _, word := range words {
		if word == "*" {
			return nil, false
		}
		// Each name goes to where it stands ahead of those that are greater.
		name := plain(small(word))
		i := 0
		for i < len(names) && names[i] < name {
			i++
		}
		if i == len(names) || names[i] != name {
			names = slices.Insert(names, i, name)
		}
	}
	return names, true
}

func keyByPattern(names []string, ask []api.Field) string {
	key := ""
	for _, name := range names {
		name = small(runes(name))
		key += name
		all, found := elements(ask, name)
		if found {
			key += ":"
		}
		for i, element := range all {
			if i > 0 {
				key += ","
			}
			key += element
		}
		key += "\n"
	}
	return plain(key)
}

func wantNamesAsOracle(t *testing.T, list []api.Field) {
	t.Helper()
	if want, ok := namesByPattern(list); ok {
		wantNames(t, list, want...)
	} else {
		wantAnything(t, list)
	}
}

func wantKeyAsOracle(t *testing.T, names []string, ask []api.Field) {
	t.Helper()
	wantKey(t, names, ask, keyByPattern(names, ask))
}

// wantMatchesAsOracle: of an entry with these fields, with the key that the request has, and with another one.
func wantMatchesAsOracle(t *testing.T, list, ask []api.Field, other string) {
	t.Helper()
	names, ok := namesByPattern(list)
	key := keyByPattern(names, ask)
	wantMatches(t, stored(key, list), ask, ok)
	wantMatches(t, stored(other, list), ask, ok && key == other)
}

// everyRow: all rows of at most n things out of some.
func everyRow[T any](n int, some ...T) [][]T {
	all := [][]T{nil}
	for from := 0; n > 0; n-- {
		to := len(all)
		for _, row := range all[from:to] {
			for _, thing := range some {
				all = append(all, append(slices.Clone(row), thing))
			}
		}
		from = to
	}
	return all
}

func TestNamesOfAllShortValues(t *testing.T) {
	for _, parts := range everyRow(6, "a", "B", "*", "\"", "\\", ",", " ") {
		wantNamesAsOracle(t, varies(strings.Join(parts, "")))
	}
}

func TestNamesOfAllShortLists(t *testing.T) {
	for _, list := range everyRow(4, pairs("Vary", "", "vary", "b, A", "VARY", "c\"*", "Vary", "B,\"", "Vary", " * ", "vary", "\xff,a", "X", "*", "", "d")...) {
		wantNamesAsOracle(t, list)
	}
}

func TestKeyOfAllShortValues(t *testing.T) {
	for _, parts := range everyRow(6, "a", "B", "\"", "\\", ",", " ", "\n") {
		value := strings.Join(parts, "")
		wantKeyAsOracle(t, []string{"A"}, pairs("a", value))
	}
}

func TestKeyOfAllShortLists(t *testing.T) {
	asks := everyRow(3, pairs("A", "x", "a", " y, \"", "a", "", "B", "X,", "", "z", "*", "w", "C", "v")...)
	for _, names := range everyRow(3, "a", "A", "b", "", "*") {
		for _, ask := range asks {
			wantKeyAsOracle(t, names, ask)
		}
	}
}

func TestMatchesOfAllShortLists(t *testing.T) {
	asks := everyRow(2, pairs("A", "x", "a", " y, \"", "a", "", "B", "X,", "C", "v")...)
	var keys []string
	for _, names := range [][]string{nil, {"a"}, {"a", "b"}, {"b"}} {
		for _, ask := range asks {
			keys = append(keys, keyByPattern(names, ask))
		}
	}
	for i, list := range everyRow(3, pairs("Vary", "a", "vary", "B, a", "Vary", "", "VARY", "*", "X", "c")...) {
		for j, ask := range asks {
			wantMatchesAsOracle(t, list, ask, keys[(i*31+j*7)%len(keys)])
		}
	}
}

// anyText: a text of a few parts at which answers change, or of any bytes.
func anyText(chance *rand.Rand) string {
	parts := []string{"a", "b", "A", "*", "\"", "\\", ",", " ", "\t", ":", "\n", "vary", "Accept", "\xff", string([]byte{byte(chance.Intn(256))})}
	text := ""
	for range chance.Intn(7) {
		text += parts[chance.Intn(len(parts))]
	}
	return text
}

func anyList(chance *rand.Rand, names ...string) []api.Field {
	var list []api.Field
	for range chance.Intn(6) {
		name := anyText(chance)
		if chance.Intn(4) > 0 {
			name = names[chance.Intn(len(names))]
		}
		list = append(list, api.Field{Name: name, Value: anyText(chance)})
	}
	return list
}

func TestManyLists(t *testing.T) {
	chance := rand.New(rand.NewSource(17))
	for range 60000 {
		list := anyList(chance, "Vary", "vary", "VARY", "X")
		ask := anyList(chance, "a", "A", "b", "Accept", "\"a\"", "*", "")
		wantNamesAsOracle(t, list)
		var names []string
		for range chance.Intn(5) {
			names = append(names, anyText(chance))
		}
		wantKeyAsOracle(t, names, ask)
		wantMatchesAsOracle(t, list, ask, vary.Key(names, ask))
	}
}

func FuzzVary(f *testing.F) {
	f.Add("Vary", "Accept, accept-language", "vary", "Accept", "accept", "a ,b", "accept:a,b\n")
	f.Add("VARY", "\"a, *", "X", "*", "\"A, *", "\xff,\x00", "")
	f.Add("vary", "", "Vary", "*", "", "\"\\", "*\n")
	f.Fuzz(func(t *testing.T, name, value, other, second, asked, told, key string) {
		list, ask := pairs(name, value, other, second), pairs(asked, told, value, second, asked, value)
		for _, fields := range [][]api.Field{list, ask, varies(value, second), varies(told)} {
			wantNamesAsOracle(t, fields)
			wantKeyAsOracle(t, []string{name, asked, value}, fields)
			wantMatchesAsOracle(t, fields, ask, key)
		}
		wantKeyAsOracle(t, []string{asked, "", other}, ask)
	})
}
