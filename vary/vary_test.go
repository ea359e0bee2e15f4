package vary_test

import (
	"slices"
	"strconv"
	"strings"
	"testing"

	"conduit/api"
	"conduit/vary"
)

// pairs: the fields of names and values by turns.
func pairs(texts ...string) []api.Field {
	var list []api.Field
	for i := 0; i < len(texts); i += 2 {
		list = append(list, api.Field{Name: texts[i], Value: texts[i+1]})
	}
	return list
}

// varies: a field Vary for each value.
func varies(values ...string) []api.Field {
	var list []api.Field
	for _, value := range values {
		list = append(list, api.Field{Name: "Vary", Value: value})
	}
	return list
}

// stored: an entry with that key of its variant, and with a response that has these fields.
func stored(key string, list []api.Field) api.Entry {
	return api.Entry{Key: "http://a/", Vary: key, Resp: api.Response{Status: 200, Minor: 1, Fields: list}}
}

func wantNames(t *testing.T, list []api.Field, want ...string) {
	t.Helper()
	if got, ok := vary.Names(list); !slices.Equal(got, want) || !ok {
		t.Errorf("Names(%.300q) = %.300q, %t; want %.300q, true", list, got, ok, want)
	}
}

func wantAnything(t *testing.T, list []api.Field) {
	t.Helper()
	if got, ok := vary.Names(list); len(got) != 0 || ok {
		t.Errorf("Names(%.300q) = %.300q, %t; want none, false", list, got, ok)
	}
}

func wantKey(t *testing.T, names []string, ask []api.Field, want string) {
	t.Helper()
	if got := vary.Key(names, ask); got != want {
		t.Errorf("Key(%.300q, %.300q) = %.300q; want %.300q", names, ask, got, want)
	}
}

func wantMatches(t *testing.T, e api.Entry, ask []api.Field, want bool) {
	t.Helper()
	if got := vary.Matches(e, ask); got != want {
		t.Errorf("Matches(%.300q with %.300q, %.300q) = %t", e.Vary, e.Resp.Fields, ask, got)
	}
}

// P17.1: Names

func TestNamesOfTheChaptersExamples(t *testing.T) {
	wantNames(t, varies("Accept, accept-language", "Accept"), "accept", "accept-language")
	wantAnything(t, varies("Accept, *"))
}

func TestNamesOfNoVary(t *testing.T) {
	for _, list := range [][]api.Field{
		nil, {}, varies("*")[:0], pairs("", ""), pairs("", "*"), pairs("Accept", "a", "Host", "*"),
		pairs("Var", "a", "Varyy", "*", "Vary ", "b", " Vary", "*", "Vary:", "c", "*", "Vary", "x-vary", "*"),
		pairs("V\u0430ry", "a"), pairs("var\u0443", "*"), pairs("Vary\x00", "a"), pairs("Vary\xff", "*"),
	} {
		wantNames(t, list)
	}
}

func TestNamesOfAnEmptyVary(t *testing.T) {
	for _, value := range []string{"", " ", "\t", ",", ",,", " , ", ",\t,", " ,, ,\t"} {
		wantNames(t, varies(value))
		wantNames(t, varies(value, value))
		wantNames(t, varies(value, "Cookie", value), "cookie")
		wantNames(t, varies("Cookie"+","+value), "cookie")
		wantAnything(t, varies(value, "*"))
	}
}

func TestNamesOfOneFieldAndOfSeveral(t *testing.T) {
	wantNames(t, varies("Cookie"), "cookie")
	wantNames(t, varies("Cookie, Accept"), "accept", "cookie")
	wantNames(t, varies("Cookie", "Accept"), "accept", "cookie")
	wantNames(t, varies("Accept", "Cookie"), "accept", "cookie")
	wantNames(t, varies("c,b", "e , a", "d"), "a", "b", "c", "d", "e")
	wantNames(t, varies(" \tc\t , , b,", "", ",a"), "a", "b", "c")
	wantNames(t, pairs("VARY", "b", "Accept", "x", "vary", "a", "vArY", "c", "Host", "d"), "a", "b", "c")
}

func TestNamesStandOnceEach(t *testing.T) {
	for _, list := range [][]api.Field{
		varies("Accept, accept"), varies("ACCEPT", "accept", "Accept"), varies("aCCEPT,Accept", "accept,ACCEPT"), varies("accept, accept, accept,"),
	} {
		wantNames(t, list, "accept")
	}
	wantNames(t, varies("b, A, B, a", "a, C", "b"), "a", "b", "c")
	wantNames(t, varies("a, aa, a, A-, aa, a-, AA, A"), "a", "a-", "aa")
}

// The words are folded ahead of their ordering: a capital stands ahead of "_" as a byte, its small letter behind it.
func TestNamesRiseAsBytes(t *testing.T) {
	wantNames(t, varies("B, _, a, ~, 9, -, A-b, ab, a, !"), "!", "-", "9", "_", "a", "a-b", "ab", "b", "~")
	wantNames(t, varies("\xff, z, \x80, \u00e9, \u0431, \x01, \u20ac"), "\x01", "z", "\x80", "\u00e9", "\u0431", "\u20ac", "\xff")
	wantNames(t, varies("x10, x9, x1, x"), "x", "x1", "x10", "x9")
	var words, want []string
	for i := 999; i >= 0; i-- {
		words = append(words, "H"+strconv.Itoa(i*7%1000))
		want = append(want, "h"+strconv.Itoa(i))
	}
	slices.Sort(want)
	wantNames(t, varies(strings.Join(words, ", ")), want...)
	wantNames(t, varies(append(words, words...)...), want...)
}

func TestAnythingAtAll(t *testing.T) {
	for _, value := range []string{"*", " *", "*\t", " * ", ",*", "*,", " , * , ", "*,*", "*, Accept", "Accept,*", "a, b,*,c, d", "\"a\",*", "\"a,b\" , *", "\"*\",*", "**,*"} {
		wantAnything(t, varies(value))
		wantAnything(t, varies("Accept", value))
		wantAnything(t, varies(value, "Accept"))
		wantAnything(t, varies("", "b", value, "a", ""))
		wantAnything(t, pairs("vary", value))
		wantAnything(t, pairs("VARY", value, "X", "y"))
	}
	// A quoted stretch that doesn't end reaches to its own value's end alone.
	wantAnything(t, varies("\"a", "*"))
	wantAnything(t, varies("\"a\\", "*", "b"))
}

func TestAStarThatIsNoWordByItself(t *testing.T) {
	for value, name := range map[string]string{
		"\"*\"": "\"*\"", "\"*": "\"*", "\"a, *\"": "\"a, *\"", "\"a, *": "\"a, *", "\"a\\\", *, b\"": "\"a\\\", *, b\"", "\" * \"": "\" * \"",
		"**": "**", "*a": "*a", "a*": "a*", "A*b": "a*b", "x-*": "x-*", "*/*": "*/*", "* a": "* a", "a *": "a *", "*;q": "*;q", "\\*": "\\*", "*\\": "*\\", "'*'": "'*'", "*\x00": "*\x00", "\u2217": "\u2217", "*\"\"": "*\"\"",
	} {
		wantNames(t, varies(value), name)
		wantNames(t, varies("Accept", value, value), slices.Sorted(slices.Values([]string{"accept", name}))...)
		wantNames(t, varies(" ,"+value), name)
		wantKey(t, []string{name}, nil, name+"\n")
	}
}

// Words are taken whatever their bytes are, and only A to Z have small letters.
func TestWordsThatAreNoTokens(t *testing.T) {
	for value, name := range map[string]string{
		"A B": "a b", "A\tB": "a\tb", "A:B": "a:b", "A;q=1": "a;q=1", "(A)": "(a)", "\"A,B\"": "\"a,b\"", "A\"B,C\"D": "a\"b,c\"d", "\"A\\\"B\"": "\"a\\\"b\"", "\"A": "\"a",
		"A\x00": "a\x00", "A\x7f": "a\x7f", "A\r\nB": "a\r\nb", "\u00c4A": "\u00c4a", "\u212a": "\u212a", "\u0130": "\u0130", "\xc0\xffZ": "\xc0\xffz", "=": "=", "@[`{": "@[`{",
	} {
		wantNames(t, varies(value), name)
		wantNames(t, varies(value, "\t "+value, ","+value), name)
	}
	wantNames(t, varies("\"B, A\", c, \"b, a\""), "\"b, a\"", "c")
}

// P17.2: Key

func TestKeyOfTheChaptersExamples(t *testing.T) {
	wantKey(t, []string{"accept", "accept-language"}, pairs("Accept", "a ,b", "X", "c"), "accept:a,b\naccept-language\n")
	wantKey(t, nil, nil, "")
}

func TestKeyOfNoNames(t *testing.T) {
	for _, names := range [][]string{nil, {}, make([]string, 0, 5)} {
		for _, ask := range [][]api.Field{nil, {}, pairs("", ""), pairs("", "a"), pairs("Accept", "a", "Host", "b")} {
			wantKey(t, names, ask, "")
		}
	}
}

func TestKeyOfANameThatAskHasNot(t *testing.T) {
	for _, ask := range [][]api.Field{
		nil, {}, pairs("Accept", "x")[:0], pairs("", "a"), pairs("Accept-Language", "a", "Accep", "b", "accept ", "c", " Accept", "d", "Accept\x00", "e"), pairs("a", "Accept"), pairs("A\u0441cept", "a"),
	} {
		wantKey(t, []string{"accept"}, ask, "accept\n")
		wantKey(t, []string{"ACCEPT", "b"}, ask, "accept\nb\n")
	}
}

func TestKeyOfEmptyValues(t *testing.T) {
	for _, value := range []string{"", " ", "\t ", ",", ", ,", "\t,,"} {
		wantKey(t, []string{"a"}, pairs("A", value), "a:\n")
		wantKey(t, []string{"a"}, pairs("A", value, "a", value), "a:\n")
		wantKey(t, []string{"a", "b", "c"}, pairs("c", value, "A", value), "a:\nb\nc:\n")
		wantKey(t, []string{"a"}, pairs("A", value, "A", "x", "A", value, "A", "y", "A", value), "a:x,y\n")
	}
}

func TestKeyOfFieldsOnceAndTwice(t *testing.T) {
	names := []string{"accept", "cookie"}
	wantKey(t, names, pairs("Accept", "x"), "accept:x\ncookie\n")
	wantKey(t, names, pairs("Cookie", "x"), "accept\ncookie:x\n")
	wantKey(t, names, pairs("Cookie", "y", "Accept", "x"), "accept:x\ncookie:y\n")
	wantKey(t, names, pairs("Accept", "x", "Accept", "y"), "accept:x,y\ncookie\n")
	wantKey(t, names, pairs("Accept", "y", "X", "z", "Accept", "x"), "accept:y,x\ncookie\n")
	wantKey(t, names, pairs("accept", "x,y", "ACCEPT", "z", "aCCept", "x"), "accept:x,y,z,x\ncookie\n")
	wantKey(t, names, pairs("Cookie", "a ,  b", "Accept", "d", "cookie", "c", "accept", "e"), "accept:d,e\ncookie:a,b,c\n")
	wantKey(t, names, pairs("Accept", "x", "accept", "x", "Accept", "x"), "accept:x,x,x\ncookie\n")
}

// The elements are as they stand: their letters, and their order, make a difference.
func TestKeyOfElements(t *testing.T) {
	for value, elements := range map[string]string{
		"X": "X", "x": "x", "b, a": "b,a", "a,b": "a,b", " a\t,\tb ": "a,b", "a,,b": "a,b", ",a, ,b,": "a,b", "a b ,  c": "a b,c", "a  b": "a  b", "a, a": "a,a",
		"\"a,b\"": "\"a,b\"", "\"a , b\" ,c": "\"a , b\",c", "\"A\\\",\" , \"b\\\\\",c": "\"A\\\",\",\"b\\\\\",c", "x\"a , b\"y , c": "x\"a , b\"y,c", "\"a , b": "\"a , b", "\"a ,\\": "\"a ,\\", "\"\"": "\"\"", "\" \"": "\" \"", "\\, a": "\\,a",
		"text/html;q=0.5 ,  */*; q=0": "text/html;q=0.5,*/*; q=0", "a=1; B=2": "a=1; B=2", "*": "*", "a:b\nc": "a:b\nc", "\r\na": "\r\na", "a\x00": "a\x00", "\u00a0a": "\u00a0a", "\xff,\x80": "\xff,\x80", "\u00c4": "\u00c4",
	} {
		wantKey(t, []string{"a"}, pairs("A", value), "a:"+elements+"\n")
		wantKey(t, []string{"a"}, pairs("A", value, "a", " y "), "a:"+elements+",y\n")
		wantKey(t, []string{"a"}, pairs("A", "y,", "a", value), "a:y,"+elements+"\n")
		wantKey(t, []string{"b", "a"}, pairs("A", value, "C", value), "b\na:"+elements+"\n")
	}
	wantKey(t, []string{"a"}, pairs("A", "\"x ,", "A", ", y\" , z"), "a:\"x ,,y\" , z\n")
	wantKey(t, []string{"a"}, pairs("A", "x\\", "A", "y"), "a:x\\,y\n")
}

func TestKeyOfNamesWithCapitals(t *testing.T) {
	for _, name := range []string{"accept", "ACCEPT", "Accept", "aCCEPt"} {
		for _, asked := range []string{"accept", "ACCEPT", "Accept", "aCCEPt"} {
			wantKey(t, []string{name}, pairs(asked, "X"), "accept:X\n")
		}
		wantKey(t, []string{name}, nil, "accept\n")
	}
	// A letter that Unicode folds to one of a to z is another.
	wantKey(t, []string{"\u212a", "k"}, pairs("K", "x"), "\u212a\nk:x\n")
	wantKey(t, []string{"k", "\u017f"}, pairs("\u212a", "x", "S", "y"), "k\n\u017f\n")
	wantKey(t, []string{"\u00c4Z"}, pairs("\u00e4z", "x"), "\u00c4z\n")
}

func TestKeyKeepsTheNamesOrder(t *testing.T) {
	ask := pairs("a", "x", "b", "y", "c", "z")
	wantKey(t, []string{"c", "a", "b"}, ask, "c:z\na:x\nb:y\n")
	wantKey(t, []string{"b", "d", "a"}, ask, "b:y\nd\na:x\n")
	wantKey(t, []string{"b", "C", "a"}, nil, "b\nc\na\n")
}

func TestKeyOfANameThatStandsTwice(t *testing.T) {
	ask := pairs("A", "x", "a", "y")
	wantKey(t, []string{"a", "a"}, ask, "a:x,y\na:x,y\n")
	wantKey(t, []string{"a", "A", "b", "a", "B"}, ask, "a:x,y\na:x,y\nb\na:x,y\nb\n")
	wantKey(t, []string{"b", "b", "b"}, ask, "b\nb\nb\n")
}

func TestKeyOfNamesThatAreNoTokens(t *testing.T) {
	wantKey(t, []string{""}, nil, "\n")
	wantKey(t, []string{"", ""}, pairs("A", "x"), "\n\n")
	wantKey(t, []string{""}, pairs("", ""), ":\n")
	wantKey(t, []string{"", "a", ""}, pairs("", "x", "A", "y", "", "z"), ":x,z\na:y\n:x,z\n")
	wantKey(t, []string{" "}, pairs("", "x", "\t", "y"), " \n")
	wantKey(t, []string{"*"}, nil, "*\n")
	wantKey(t, []string{"*", "a"}, pairs("*", "x"), "*:x\na\n")
	for _, name := range []string{" ", "a b", " a", "a ", "a:", ":a", "a\n", "\n", "a,b", "\"a\"", "\x00", "a\x00b", "\xff", "\u00e4", "a\xc3"} {
		wantKey(t, []string{name}, nil, name+"\n")
		wantKey(t, []string{name}, pairs("x", "y", name, " Z , z"), name+":Z,z\n")
		wantKey(t, []string{"N" + name}, pairs(name, "y", "n"+name, " Z , z"), "n"+name+":Z,z\n")
		wantKey(t, []string{name, "x"}, pairs("x", "y"), name+"\nx:y\n")
	}
}

func TestKeyOfEachByteInNames(t *testing.T) {
	for one := range 256 {
		name := string([]byte{'n', byte(one)})
		folded := name
		if 'A' <= one && one <= 'Z' {
			folded = string([]byte{'n', byte(one + 32)})
		}
		for other := range 256 {
			asked := string([]byte{'N', byte(other)})
			want := folded + "\n"
			if one == other || one < 128 && other < 128 && letter(one) && letter(other) && one|32 == other|32 {
				want = folded + ":v\n"
			}
			wantKey(t, []string{name}, pairs(asked, "v"), want)
		}
	}
}

func letter(c int) bool {
	return 'a' <= c|32 && c|32 <= 'z'
}

// P17.3: Matches

func TestMatchesOfAnEntryWithoutVary(t *testing.T) {
	for _, list := range [][]api.Field{nil, {}, varies(""), varies(" ,", ","), pairs("Accept", "a", "Varied", "b")} {
		for _, ask := range [][]api.Field{nil, pairs("Accept", "a"), pairs("", ""), pairs("Vary", "*")} {
			wantMatches(t, stored("", list), ask, true)
			for _, key := range []string{"\n", "accept\n", "accept:a\n", " ", "x", ":\n"} {
				wantMatches(t, stored(key, list), ask, false)
			}
		}
	}
}

func TestMatchesOfAnEntryWithVary(t *testing.T) {
	e := stored("accept:a,b\ncookie\n", varies("Cookie, Accept", "accept"))
	for _, ask := range [][]api.Field{
		pairs("Accept", "a,b"), pairs("accept", " a ,\tb "), pairs("ACCEPT", "a", "X", "y", "Accept", ",b"), pairs("Host", "h", "Accept", "a, ,b", "Cookies", "c"), pairs("Accept", "", "Accept", "a,b"),
	} {
		wantMatches(t, e, ask, true)
	}
	for _, ask := range [][]api.Field{
		nil, pairs("Accept", ""), pairs("Accept", "a"), pairs("Accept", "b,a"), pairs("Accept", "A,b"), pairs("Accept", "a,b,"+"c"), pairs("Accept", "a b"), pairs("Accept", "\"a,b\""), pairs("Accept", "b", "Accept", "a"),
		pairs("Accept", "a,b", "Cookie", ""), pairs("Accept", "a,b", "cookie", "c"), pairs("Accept", "a,b", "accept", "b"), pairs("Accept ", "a,b"), pairs("Cookie", "a,b"),
	} {
		wantMatches(t, e, ask, false)
	}
	wantMatches(t, stored("cookie\n", varies("Cookie")), nil, true)
	wantMatches(t, stored("cookie\n", varies("Cookie")), pairs("Cookie", ""), false)
	wantMatches(t, stored("cookie:\n", varies("Cookie")), pairs("Cookie", ""), true)
	wantMatches(t, stored("cookie:\n", varies("Cookie")), nil, false)
	wantMatches(t, stored("", varies("Cookie")), nil, false)
	wantMatches(t, stored("", varies("Cookie")), pairs("Cookie", "c"), false)
}

// The entry's key has to be made of rising names in small letters, each once: others are other keys.
func TestMatchesOfKeysThatAreMadeInOtherWays(t *testing.T) {
	list, ask := varies("B, A, b"), pairs("A", "x", "B", "Y")
	wantMatches(t, stored("a:x\nb:Y\n", list), ask, true)
	for _, key := range []string{
		"", "b:Y\na:x\n", "B:Y\nA:x\n", "a:x\nb:y\n", "A:x\nb:Y\n", "a:x\nb:Y", "a:x\nb:Y\n\n", "a:x\nb:Y\nb:Y\n", "a:x\n", "b:Y\n", "a: x\nb: Y\n", "a\nb\n", "a:x\r\nb:Y\r\n", "a:x,b:Y\n", "\na:x\nb:Y\n", "*\n",
	} {
		wantMatches(t, stored(key, list), ask, false)
	}
}

func TestMatchesOfAKeyThatDiffersByOneByte(t *testing.T) {
	list := varies("Accept, Cookie, X-\xff, \"Q\"")
	ask := pairs("Accept", "a, \"b,c\"", "cookie", "", "\"q\"", "z")
	names, _ := vary.Names(list)
	key := vary.Key(names, ask)
	if key != "\"q\":z\naccept:a,\"b,c\"\ncookie:\nx-\xff\n" {
		t.Fatalf("Key = %q", key)
	}
	wantMatches(t, stored(key, list), ask, true)
	for i := range key {
		for other := range 256 {
			changed := []byte(key)
			changed[i] = byte(other)
			wantMatches(t, stored(string(changed), list), ask, byte(other) == key[i])
		}
		wantMatches(t, stored(key[:i]+key[i+1:], list), ask, false)
		wantMatches(t, stored(key[:i], list), ask, false)
		wantMatches(t, stored(key[:i]+key[i:i+1]+key[i:], list), ask, false)
	}
	wantMatches(t, stored(key+"\x00", list), ask, false)
}

func TestMatchesOfAnything(t *testing.T) {
	for _, list := range [][]api.Field{varies("*"), varies("Accept, *"), varies("*", "Accept"), varies("Accept", "", " * "), pairs("VARY", "*")} {
		for _, ask := range [][]api.Field{nil, pairs("Accept", "a"), pairs("*", "a"), pairs("Vary", "*")} {
			for _, key := range []string{"", "*", "*\n", "*:a\n", "accept\n", "accept:a\n", "*\naccept:a\n", "*:a\naccept\n"} {
				wantMatches(t, stored(key, list), ask, false)
			}
		}
	}
	wantMatches(t, stored("\"*\":a\n", varies("\"*\"")), pairs("\"*\"", "a"), true)
	wantMatches(t, stored("**\n", varies("**")), nil, true)
}

// What else the entry tells, and what the request's own Vary says, makes no difference.
func TestMatchesAsksForNothingElse(t *testing.T) {
	e := stored("accept:a\n", pairs("Accept", "b", "Vary", "Accept", "Cache-Control", "no-store"))
	for _, change := range []func(e *api.Entry){
		func(e *api.Entry) { e.Key = "" },
		func(e *api.Entry) { e.Key, e.Body = "accept:b\n", []byte("body") },
		func(e *api.Entry) { e.Resp.Status, e.Resp.Reason, e.Resp.Minor = -404, "accept", 7 },
		func(e *api.Entry) { e.Asked, e.Got = -1, 1<<62 },
	} {
		other := e
		change(&other)
		wantMatches(t, other, pairs("Accept", "a", "Vary", "*"), true)
		wantMatches(t, other, pairs("Accept", "b"), false)
	}
	wantMatches(t, api.Entry{}, nil, true)
	wantMatches(t, api.Entry{}, pairs("Accept", "a"), true)
}

// P1 and P2: calls end, and answer the same for the same

func TestLongLists(t *testing.T) {
	const many = 20000
	var names, words []string
	var ask []api.Field
	var key strings.Builder
	for i := range many {
		name := "n" + strconv.Itoa(100000+i)
		names, words = append(names, name), append(words, strings.ToUpper(name))
		ask = append(ask, pairs("N"+strconv.Itoa(100000+i*2), "\"v,\" , ,w")...)
		key.WriteString(name)
		if i%2 == 0 {
			key.WriteString(":\"v,\",w")
		}
		key.WriteString("\n")
	}
	wantNames(t, varies(strings.Join(words, ",")), names...)
	wantNames(t, varies(append(words, words...)...), names...)
	wantKey(t, names, ask, key.String())
	wantMatches(t, stored(key.String(), varies(words...)), ask, true)
	wantMatches(t, stored(key.String(), varies(words[1:]...)), ask, false)
	wantAnything(t, varies(append(words, "*")...))
	wantNames(t, varies(strings.Repeat(",", 1000000)+strings.Repeat("A", 1000000)), strings.Repeat("a", 1000000))
	wantNames(t, varies("\""+strings.Repeat("\\\",*", 300000)), "\""+strings.Repeat("\\\",*", 300000))
	wantKey(t, make([]string, 1000000), nil, strings.Repeat("\n", 1000000))
	wantKey(t, []string{"a"}, slices.Repeat(pairs("A", "x", "a", ""), 100000), "a:x"+strings.Repeat(",x", 99999)+"\n")
	wantKey(t, []string{"a", "a"}, pairs("A", strings.Repeat(" ,", 1000000)), "a:\na:\n")
}

func TestCallsAnswerTheSameTwice(t *testing.T) {
	list, ask := varies("c, B", "a, b"), pairs("B", "x", "a", "", "b", "Y")
	for range 3 {
		wantNames(t, list, "a", "b", "c")
		wantKey(t, []string{"a", "b", "c"}, ask, "a:\nb:x,Y\nc\n")
		wantMatches(t, stored("a:\nb:x,Y\nc\n", list), ask, true)
		// Other calls between leave nothing that a later one could tell.
		wantAnything(t, varies("*"))
		wantKey(t, []string{"a", "c"}, pairs("A", "z", "c", "z"), "a:z\nc:z\n")
		wantMatches(t, stored("", list), ask, false)
	}
}
