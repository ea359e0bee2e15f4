package uri_test

import (
	"fmt"
	"math"
	"regexp"
	"slices"
	"strconv"
	"strings"
	"testing"
	"unsafe"

	"conduit/api"
	"conduit/uri"
)

const (
	letters = "ABCDEFGHIJKLMNOPQRSTUVWXYZabcdefghijklmnopqrstuvwxyz"
	numbers = "0123456789"
)

func wantParse(t *testing.T, s string, want api.Target, wantErrno api.Errno) {
	t.Helper()
	if got, errno := uri.Parse(s); got != want || errno != wantErrno {
		t.Errorf("Parse(%q) = %+v, %d; want %+v, %d", s, got, errno, want, wantErrno)
	}
}

func wantAuthority(t *testing.T, s string, want api.Target, wantErrno api.Errno) {
	t.Helper()
	if got, errno := uri.Authority(s); got != want || errno != wantErrno {
		t.Errorf("Authority(%q) = %+v, %d; want %+v, %d", s, got, errno, want, wantErrno)
	}
}

// wantPath: the Path of a rest, behind a host of which nothing is to be said.
func wantPath(t *testing.T, rest, want string) {
	t.Helper()
	wantParse(t, "http://a"+rest, api.Target{Host: "a", Port: 80, Path: want}, api.OK)
}

func wantWrong(t *testing.T, errno api.Errno, all ...string) {
	t.Helper()
	for _, s := range all {
		wantParse(t, s, api.Target{}, errno)
	}
}

// everyByte: the 256 texts of one byte.
func everyByte() []string {
	var all []string
	for c := range 256 {
		all = append(all, string([]byte{byte(c)}))
	}
	return all
}

// everyText: all texts of at most n parts out of an alphabet of parts.
func everyText(n int, alphabet ...string) []string {
	all := []string{""}
	for from := 0; n > 0; n-- {
		to := len(all)
		for _, s := range all[from:to] {
			for _, part := range alphabet {
				all = append(all, s+part)
			}
		}
		from = to
	}
	return all
}

// P3.1: the whole

func TestParse(t *testing.T) {
	for s, want := range map[string]api.Target{
		"HTTP://Ex.com:080/%7euser/a/../b?q=%2f": {Host: "ex.com", Port: 80, Path: "/~user/b?q=%2F"},
		"http://a?x":                             {Host: "a", Port: 80, Path: "/?x"},
		"http://a:/":                             {Host: "a", Port: 80, Path: "/"},
		"http://a":                               {Host: "a", Port: 80, Path: "/"},
		"http://a/":                              {Host: "a", Port: 80, Path: "/"},
		"http://10.0.0.1:8080/Index.HTML":        {Host: "10.0.0.1", Port: 8080, Path: "/Index.HTML"},
		"http://-.-:1?Q=%41%3a":                  {Host: "-.-", Port: 1, Path: "/?Q=A%3A"},
		"http://WWW.Example.ORG./a;b=c,d":        {Host: "www.example.org.", Port: 80, Path: "/a;b=c,d"},
		"http://a/http://b:0/":                   {Host: "a", Port: 80, Path: "/http://b:0/"},
		"http://a?http://b:0/..":                 {Host: "a", Port: 80, Path: "/?http://b:0/.."},
		"http://a/@[]{}|^`\"<>\\!$&'()*+,;=:":    {Host: "a", Port: 80, Path: "/@[]{}|^`\"<>\\!$&'()*+,;=:"},
	} {
		wantParse(t, s, want, api.OK)
	}
}

func TestParseOfWrongAddresses(t *testing.T) {
	wantWrong(t, api.ErrUri, " ", "http://a/ ", " http://a/", "http://a/\x00", "http://a/\x7f", "http://a/ä", "http://a/#", "#", "http://a/#b?c", "http://a/?#", "http://a\t/")
	wantWrong(t, api.ErrScheme, "", "/", "a", "a:80", "*", "ftp://a/", "https://a/", "http:/a", "http//a", "http:a/", "//a/", "xhttp://a/", "http:", "http:/", "http")
	wantWrong(t, api.ErrHost, "http://", "http:///x", "http://?x", "http://:80/", "http://:", "http://u@h/", "http://u_:/", "http://[::1]/", "http://a_b/", "http://a%41/", "http://a,b/", "http://*/")
	wantWrong(t, api.ErrPort, "http://a:0/", "http://a:x/", "http://u:p@h/", "http://a:1:2/", "http://a:80:/", "http://a::/", "http://a:%38/")
	wantWrong(t, api.ErrUri, "http://a/%", "http://a?%", "http://a/%4", "http://a/%g0", "http://a/%4g", "http://a/%%41", "http://a/%41%", "http://a/x?y%", "http://a/%?41")
}

// The errors are told in the chapter's order: each text here has all faults from its own on.
func TestParseTellsTheFirstError(t *testing.T) {
	faults := []struct {
		scheme, host, port, rest string
		errno                    api.Errno
	}{
		{"ftp://", "_", ":0", "/%#" + strings.Repeat("x", api.KeyCap), api.ErrLong},
		{"ftp://", "_", ":0", "/%#", api.ErrUri},
		{"ftp://", "_", ":0", "/%", api.ErrScheme},
		{"http://", "_", ":0", "/%", api.ErrHost},
		{"http://", "a", ":0", "/%", api.ErrPort},
		{"http://", "a", ":1", "/%", api.ErrUri},
	}
	for _, f := range faults {
		wantWrong(t, f.errno, f.scheme+f.host+f.port+f.rest)
	}
	wantWrong(t, api.ErrLong, strings.Repeat("#", api.KeyCap+1), strings.Repeat(" ", 2*api.KeyCap))
	wantWrong(t, api.ErrUri, strings.Repeat("#", api.KeyCap), "http://a:0/%#", "http://_/ ", "ftp://a\x80")
}

func TestParseOfLongAddresses(t *testing.T) {
	for _, begin := range []string{"http://a/", "http://a/?", "HTTP://a:00080//"} {
		s := begin + strings.Repeat("x", 4096-len(begin))
		_, rest, _ := strings.Cut(s[len("http://"):], "/")
		wantParse(t, s, api.Target{Host: "a", Port: 80, Path: "/" + rest}, api.OK)
		wantWrong(t, api.ErrLong, s+"x")
	}
	// What is too long is what is handed in, not what becomes of it.
	wantPath(t, "?"+strings.Repeat("x", 4087), "/?"+strings.Repeat("x", 4087))
	wantWrong(t, api.ErrLong, "http://a/"+strings.Repeat("%41", 1363), "http://a"+strings.Repeat("/.", 2045))
	wantPath(t, "/"+strings.Repeat("%41", 1362), "/"+strings.Repeat("A", 1362))
	wantPath(t, strings.Repeat("/.", 2044), "/")
}

// The address "http://a/?" with each byte put in at each place.
func TestParseOfEachByteAtEachPlace(t *testing.T) {
	const s = "http://a/?"
	for _, c := range everyByte() {
		for i := range len(s) + 1 {
			wantAsOracle(t, s[:i]+c+s[i:])
			if !strings.ContainsAny(c, "#") && c > " " && c < "\x7f" {
				continue
			}
			wantWrong(t, api.ErrUri, s[:i]+c+s[i:])
		}
	}
}

func TestParseOfSchemesInAnyCase(t *testing.T) {
	for n := range 16 {
		b := []byte("http")
		for i := range b {
			if n>>i&1 == 1 {
				b[i] -= 'a' - 'A'
			}
		}
		wantParse(t, string(b)+"://A/B", api.Target{Host: "a", Port: 80, Path: "/B"}, api.OK)
	}
	// Marks and digits have no case, though they too differ by one bit from other bytes.
	wantWrong(t, api.ErrScheme, "httpZ//a", "httpz//a", "(ttp://a", "h4tp://a", "HT4P://a", "htt0://a", "HTTP:OOa")
}

// P3.1, P3.2: hosts and ports

func TestHostsOfEachByte(t *testing.T) {
	for _, c := range everyByte() {
		good := strings.Contains(letters+numbers+"-.", c)
		for _, host := range []string{c, "a" + c, c + "a", "a" + c + "a"} {
			want := api.Target{Host: strings.ToLower(host), Port: 81}
			if good {
				wantAuthority(t, host+":81", want, api.OK)
				want.Path = "/"
				wantParse(t, "http://"+host+":81/", want, api.OK)
			} else if c != ":" {
				wantAuthority(t, host+":81", api.Target{}, api.ErrHost)
			}
		}
	}
}

func TestLengthsOfHosts(t *testing.T) {
	for n, good := range map[int]bool{0: false, 1: true, 2: true, 254: true, 255: true, 256: false, 257: false, 4000: false} {
		host := strings.Repeat("H", n)
		if !good {
			wantAuthority(t, host+":1", api.Target{}, api.ErrHost)
			wantAuthority(t, host, api.Target{}, api.ErrHost)
			wantWrong(t, api.ErrHost, "http://"+host, "http://"+host+"/", "http://"+host+":1?", "http://"+host+":x/")
			continue
		}
		want := api.Target{Host: strings.Repeat("h", n), Port: 1}
		wantAuthority(t, host+":1", want, api.OK)
		want.Path = "/"
		wantParse(t, "http://"+host+":1", want, api.OK)
		wantParse(t, "http://"+host+":1/", want, api.OK)
		want.Port = 80
		wantParse(t, "http://"+host, want, api.OK)
	}
}

func TestEndsOfAuthorities(t *testing.T) {
	for _, port := range []string{"", ":", ":80", ":00080"} {
		for rest, path := range map[string]string{"": "/", "/": "/", "?": "/?", "/?": "/?", "?/": "/?/", "/a?b": "/a?b", "?a/b": "/?a/b", "//": "//", "??": "/??", "/:1": "/:1", "?:1": "/?:1"} {
			wantPath(t, port+rest, path)
		}
	}
}

// Every number of at most five digits, with each number of noughts ahead.
func TestPorts(t *testing.T) {
	for n := range 100000 {
		digits := strconv.Itoa(n)
		for ; len(digits) <= 6; digits = "0" + digits {
			want, errno := api.Target{Host: "a", Port: n}, api.OK
			if n == 0 || n > 65535 || len(digits) == 6 {
				want, errno = api.Target{}, api.ErrPort
			}
			wantAuthority(t, "a:"+digits, want, errno)
			if errno == api.OK {
				want.Path = "/"
			}
			wantParse(t, "http://a:"+digits, want, errno)
		}
		if t.Failed() {
			return
		}
	}
}

func TestWrongPorts(t *testing.T) {
	digits := []string{"0", "00", "00000", "65536", "65537", "70000", "99999", "000080", "000001", "100000", "655350", "18446744073709551617", "+1", "-1", "-0", "1.", "1e1", "0x1", "a", "1a", "a1", "::", ":1", "1:", "1:1", "%31", "1_0", "80@"}
	for _, c := range everyByte() {
		if !strings.Contains(numbers, c) {
			digits = append(digits, c, "8"+c, c+"8", "8"+c+"0", "1234"+c)
		}
	}
	for _, d := range digits {
		wantAuthority(t, "a:"+d, api.Target{}, api.ErrPort)
		wantAsOracle(t, "http://a:"+d+"/")
	}
	wantWrong(t, api.ErrPort, "http://a:65536", "http://a:0", "http://a:00000?", "http://a:000080/", "http://a:-1/", "http://a:+1/", "http://a:8x/")
}

// P3.1, step 1: codes

func TestCodesOfEachByte(t *testing.T) {
	for _, c := range everyByte() {
		great := fmt.Sprintf("%%%02X", c[0])
		want := great
		if strings.Contains(letters+numbers+"-._~", c) {
			want = c
		}
		small := strings.ToLower(great)
		for _, code := range []string{great, small, great[:2] + small[2:], small[:2] + great[2:]} {
			wantPath(t, "/x"+code, "/x"+want)
			wantPath(t, "/x"+code+"y"+code+code+"/x?", "/x"+want+"y"+want+want+"/x?")
			wantPath(t, "?"+code, "/?"+want)
			wantPath(t, "/?x"+code+"/"+code+"?", "/?x"+want+"/"+want+"?")
		}
	}
}

func TestCodesAreReadOnce(t *testing.T) {
	for rest, want := range map[string]string{
		"/%2541":       "/%2541",
		"/%25%34%31":   "/%2541",
		"/%252e%252e/": "/%252e%252e/",
		"/%3f/../%2f":  "/%2F",
		"/a%2f../b":    "/a%2F../b",
		"/%3F":         "/%3F",
		"/%3f..?%3f":   "/%3F..?%3F",
		"?%2e%2E/%5f":  "/?../_",
		"/ab%6":        "",
	} {
		if want == "" {
			wantWrong(t, api.ErrUri, "http://a"+rest)
			continue
		}
		wantPath(t, rest, want)
	}
}

func TestCodesThatAreNone(t *testing.T) {
	const digits = numbers + "abcdefABCDEF"
	for _, c := range everyByte() {
		if strings.Contains(digits, c) {
			continue
		}
		for _, begin := range []string{"http://a/", "http://a?", "http://a/x?y", "http://a:80/%41"} {
			wantWrong(t, api.ErrUri, begin+"%"+c, begin+"%4"+c, begin+"%"+c+"4", begin+"%"+c+"41", begin+"%"+c+c)
		}
	}
	for _, begin := range []string{"/", "?", "/a/", "/a?b"} {
		for _, end := range []string{"%", "%4", "%A", "%f", "%41%", "%41%4", "%%", "%%4", "%%41"} {
			wantWrong(t, api.ErrUri, "http://a"+begin+end, "http://a:8080"+begin+end)
		}
	}
}

// P3.1, steps 2 and 3: segments

func TestPaths(t *testing.T) {
	for rest, want := range map[string]string{
		"":                   "/",
		"/":                  "/",
		"?":                  "/?",
		"/?":                 "/?",
		"//.":                "//",
		"/a/b/../c/.":        "/a/c/",
		"/..":                "/",
		"/.":                 "/",
		"/./":                "/",
		"/../":               "/",
		"/../..":             "/",
		"/../../a":           "/a",
		"/a//b":              "/a//b",
		"//":                 "//",
		"///":                "///",
		"//..":               "/",
		"//../":              "/",
		"///..":              "//",
		"/a/":                "/a/",
		"/a/.":               "/a/",
		"/a/./":              "/a/",
		"/a/..":              "/",
		"/a/../":             "/",
		"/a/b/..":            "/a/",
		"/a/b/../":           "/a/",
		"/a/b/../..":         "/",
		"/a/b/../../..":      "/",
		"/a/../../b":         "/b",
		"/./a":               "/a",
		"/a/./b":             "/a/b",
		"/a//../b":           "/a/b",
		"/a/..//b":           "//b",
		"/...":               "/...",
		"/.a":                "/.a",
		"/a.":                "/a.",
		"/a..":               "/a..",
		"/..a":               "/..a",
		"/a/...":             "/a/...",
		"/%2e":               "/",
		"/a/%2E%2e":          "/",
		"/a/.%2e/b":          "/b",
		"/a/%2e/b":           "/a/b",
		"/a/..?":             "/?",
		"/a/..?b/../c":       "/?b/../c",
		"?/../a/.":           "/?/../a/.",
		"/a?..":              "/a?..",
		"/..?..":             "/?..",
		"/a/?/./":            "/a/?/./",
		"/a/.?x?y":           "/a/?x?y",
		"/a/b/c/./../../g":   "/a/g",
		"/mid/content=5/../": "/mid/",
	} {
		wantPath(t, rest, want)
	}
}

func TestAllShortPaths(t *testing.T) {
	for _, tail := range everyText(5, "/", ".", "..", "a", "%2e", "%2F", "?") {
		wantAsOracle(t, "http://a/"+tail)
		wantAsOracle(t, "http://a?"+tail)
	}
}

func TestAllShortPathsOfSegments(t *testing.T) {
	for _, path := range everyText(7, "/", "/.", "/..", "/a", "/b") {
		wantAsOracle(t, "http://a"+path)
	}
}

func TestAllShortAddresses(t *testing.T) {
	for _, tail := range everyText(6, "a", "Z", "0", "9", ":", "/", "?", "%", "_") {
		wantAsOracle(t, "http://"+tail)
	}
}

// What was read once is read again as it is, for keys are addresses in one form.
func TestNormalFormsAreTheirOwn(t *testing.T) {
	for _, path := range everyText(5, "/", ".", "a", "%2e", "%2f", "%25", "?") {
		s := "HTTP://Host:8080/" + path
		first, errno := uri.Parse(s)
		if errno != api.OK {
			t.Fatalf("Parse(%q) = %d", s, errno)
		}
		wantParse(t, uri.Show(first), first, api.OK)
		wantAuthority(t, uri.Origin(first), api.Target{Host: "host", Port: 8080}, api.OK)
	}
}

// P3.2

func TestAuthority(t *testing.T) {
	for s, want := range map[string]api.Target{
		"A.b:443":              {Host: "a.b", Port: 443},
		"a:1":                  {Host: "a", Port: 1},
		"a:80":                 {Host: "a", Port: 80},
		"a:00080":              {Host: "a", Port: 80},
		"a:00001":              {Host: "a", Port: 1},
		"a:65535":              {Host: "a", Port: 65535},
		"EXAMPLE-9.Org.:08443": {Host: "example-9.org.", Port: 8443},
		"127.0.0.1:3128":       {Host: "127.0.0.1", Port: 3128},
		"http:80":              {Host: "http", Port: 80},
		"-:7":                  {Host: "-", Port: 7},
	} {
		wantAuthority(t, s, want, api.OK)
	}
}

func TestAuthorityOfWrongTexts(t *testing.T) {
	for s, errno := range map[string]api.Errno{
		"":                                      api.ErrHost,
		":":                                     api.ErrHost,
		":80":                                   api.ErrHost,
		":x":                                    api.ErrHost,
		"_":                                     api.ErrHost,
		"_:x":                                   api.ErrHost,
		"a/b:80":                                api.ErrHost,
		"u@h:80":                                api.ErrHost,
		"[::1]:80":                              api.ErrHost,
		" a:80":                                 api.ErrHost,
		"a :80":                                 api.ErrHost,
		"a#:80":                                 api.ErrHost,
		"ä:80":                                  api.ErrHost,
		"%41:80":                                api.ErrHost,
		"a?:80":                                 api.ErrHost,
		"a":                                     api.ErrPort,
		"a:":                                    api.ErrPort,
		"a:0":                                   api.ErrPort,
		"a:65536":                               api.ErrPort,
		"a:000080":                              api.ErrPort,
		"a:80/":                                 api.ErrPort,
		"a:80?":                                 api.ErrPort,
		"a:80#":                                 api.ErrPort,
		"a: 80":                                 api.ErrPort,
		"a:80 ":                                 api.ErrPort,
		"a::80":                                 api.ErrPort,
		"a:80:80":                               api.ErrPort,
		"http://a:80":                           api.ErrPort,
		"a:" + strings.Repeat("0", 4094):        api.ErrPort,
		"a:" + strings.Repeat("0", 4095):        api.ErrLong,
		strings.Repeat("a", 4096):               api.ErrHost,
		strings.Repeat("a", 4097):               api.ErrLong,
		strings.Repeat("#", 4097):               api.ErrLong,
		strings.Repeat("\x00", 4096):            api.ErrHost,
		"a:1" + strings.Repeat(" ", api.KeyCap): api.ErrLong,
	} {
		wantAuthority(t, s, api.Target{}, errno)
	}
}

func TestAllShortAuthorities(t *testing.T) {
	for _, s := range everyText(6, "a", "Z", ".", "0", "9", ":", "/", "%") {
		want, errno := api.Target{}, api.ErrPort
		if m := pair.FindStringSubmatch(s); m == nil {
			errno = api.ErrHost
		} else if port, ok := portOracle(m[2]); ok {
			want, errno = api.Target{Host: strings.ToLower(m[1]), Port: port}, api.OK
		}
		wantAuthority(t, s, want, errno)
	}
}

// P3.3, P3.4

func TestShowAndOrigin(t *testing.T) {
	for _, c := range []struct {
		target       api.Target
		show, origin string
	}{
		{api.Target{Host: "a", Port: 8080, Path: "/x"}, "http://a:8080/x", "a:8080"},
		{api.Target{Host: "a", Port: 80, Path: "/x"}, "http://a/x", "a:80"},
		{api.Target{}, "http://:0", ":0"},
		{api.Target{Port: 80}, "http://", ":80"},
		{api.Target{Port: 1}, "http://:1", ":1"},
		{api.Target{Path: "/"}, "http://:0/", ":0"},
		{api.Target{Host: "a.b", Port: 443}, "http://a.b:443", "a.b:443"},
		{api.Target{Host: "A B:1", Port: 65535, Path: "x#%"}, "http://A B:1:65535x#%", "A B:1:65535"},
		{api.Target{Host: "A", Port: 80, Path: "/../%7e"}, "http://A/../%7e", "A:80"},
		{api.Target{Host: "\x00\xff", Port: 65536, Path: "\xff\x00"}, "http://\x00\xff:65536\xff\x00", "\x00\xff:65536"},
		{api.Target{Host: "a", Port: 79, Path: "/"}, "http://a:79/", "a:79"},
		{api.Target{Host: "a", Port: 81, Path: "/"}, "http://a:81/", "a:81"},
		{api.Target{Host: "a", Port: -1, Path: "/"}, "http://a:-1/", "a:-1"},
		{api.Target{Host: "a", Port: -80, Path: "/"}, "http://a:-80/", "a:-80"},
		{api.Target{Host: "a", Port: 80 + 1<<32, Path: "/"}, "http://a:4294967376/", "a:4294967376"},
		{api.Target{Host: "a", Port: math.MaxInt, Path: "/"}, "http://a:9223372036854775807/", "a:9223372036854775807"},
		{api.Target{Host: "a", Port: math.MinInt, Path: "/"}, "http://a:-9223372036854775808/", "a:-9223372036854775808"},
	} {
		if s := uri.Show(c.target); s != c.show {
			t.Errorf("Show(%+v) = %q; want %q", c.target, s, c.show)
		}
		if s := uri.Origin(c.target); s != c.origin {
			t.Errorf("Origin(%+v) = %q; want %q", c.target, s, c.origin)
		}
	}
}

func TestShowAndOriginOfManyPorts(t *testing.T) {
	for port := -100000; port <= 100000; port++ {
		target := api.Target{Host: "h", Port: port, Path: "/p"}
		origin := fmt.Sprintf("h:%d", port)
		show := "http://" + origin + "/p"
		if port == 80 {
			show = "http://h/p"
		}
		if uri.Show(target) != show || uri.Origin(target) != origin {
			t.Fatalf("%d: %q, %q", port, uri.Show(target), uri.Origin(target))
		}
	}
}

func TestShowOfLongTargets(t *testing.T) {
	long := strings.Repeat("x", 100000)
	target := api.Target{Host: long, Port: 7, Path: long}
	if uri.Show(target) != "http://"+long+":7"+long || uri.Origin(target) != long+":7" {
		t.Error("long targets are shown otherwise")
	}
}

// An oracle for Parse, made of patterns, that goes through a path from its end.

var (
	wrongByte = regexp.MustCompile(`[^!-~]|#`)
	address   = regexp.MustCompile(`^[hH][tT][tT][pP]://([^/?]*)(.*)$`)
	pair      = regexp.MustCompile(`^([-.0-9A-Za-z]{1,255})(:.*)?$`)
	digits    = regexp.MustCompile(`^:[0-9]{1,5}$`)
	wrongCode = regexp.MustCompile(`%([^0-9A-Fa-f]|.[^0-9A-Fa-f]|.?$)`)
	code      = regexp.MustCompile(`%..`)
	plain     = regexp.MustCompile(`^[-._~0-9A-Za-z]$`)
)

func wantAsOracle(t *testing.T, s string) {
	t.Helper()
	want, errno := oracle(s)
	wantParse(t, s, want, errno)
}

func oracle(s string) (api.Target, api.Errno) {
	parts := address.FindStringSubmatch(s)
	switch {
	case len(s) > 4096:
		return api.Target{}, api.ErrLong
	case wrongByte.FindStringIndex(bytesAsRunes(s)) != nil:
		return api.Target{}, api.ErrUri
	case parts == nil:
		return api.Target{}, api.ErrScheme
	}
	sides := pair.FindStringSubmatch(parts[1])
	if sides == nil {
		return api.Target{}, api.ErrHost
	}
	port, ok := portOracle(sides[2])
	switch {
	case sides[2] == "" || sides[2] == ":":
		port = 80
	case !ok:
		return api.Target{}, api.ErrPort
	}
	if wrongCode.MatchString(parts[2]) {
		return api.Target{}, api.ErrUri
	}
	return api.Target{Host: strings.ToLower(sides[1]), Port: port, Path: restOracle(parts[2])}, api.OK
}

// bytesAsRunes: s with each byte as the rune of its number, for patterns go by runes.
func bytesAsRunes(s string) string {
	var all []rune
	for i := range len(s) {
		all = append(all, rune(s[i]))
	}
	return string(all)
}

func portOracle(colonAndDigits string) (int, bool) {
	if !digits.MatchString(colonAndDigits) {
		return 0, false
	}
	port, _ := strconv.Atoi(colonAndDigits[1:])
	return port, 1 <= port && port <= 65535
}

func restOracle(rest string) string {
	rest = code.ReplaceAllStringFunc(rest, func(code string) string {
		n, _ := strconv.ParseUint(code[1:], 16, 8)
		if c := string([]byte{byte(n)}); plain.MatchString(c) {
			return c
		}
		return strings.ToUpper(code)
	})
	end := strings.Index(rest+"?", "?")
	return pathOracle(rest[:end]) + rest[end:]
}

func pathOracle(path string) string {
	if path == "" {
		return "/"
	}
	segments := strings.Split(path, "/")[1:]
	last := segments[len(segments)-1]
	var left []string
	taken := 0
	for _, segment := range slices.Backward(segments) {
		switch {
		case segment == ".":
		case segment == "..":
			taken++
		case taken > 0:
			taken--
		default:
			left = append([]string{segment}, left...)
		}
	}
	shown := "/" + strings.Join(left, "/")
	if (last == "." || last == "..") && len(left) > 0 {
		shown += "/"
	}
	return shown
}

func FuzzParse(f *testing.F) {
	f.Add("HTTP://Ex.com:080/%7euser/a/../b?q=%2f")
	f.Add("http://a/./b/../%2e%2e/c?")
	f.Add("http://a:65536/%4")
	f.Fuzz(func(t *testing.T, s string) {
		wantAsOracle(t, s)
		wantAsOracle(t, "http://"+s)
		wantAsOracle(t, "http://a/"+s)
	})
}

// Rule 5, P2

func within(part, whole string) bool {
	if part == "" || whole == "" {
		return false
	}
	p, w := uintptr(unsafe.Pointer(unsafe.StringData(part))), uintptr(unsafe.Pointer(unsafe.StringData(whole)))
	return p >= w && p < w+uintptr(len(whole))
}

func TestAnswersAreNewMemory(t *testing.T) {
	s := strings.Clone("http://host.org:8080/path/of/it?query")
	parsed, _ := uri.Parse(s)
	pairs := strings.Clone("host.org:8080")
	read, _ := uri.Authority(pairs)
	shown, origin := uri.Show(parsed), uri.Origin(parsed)
	for _, answer := range []string{parsed.Host, parsed.Path} {
		if within(answer, s) {
			t.Errorf("%q lies within what was handed in", answer)
		}
	}
	if within(read.Host, pairs) || within(parsed.Host, shown) || within(parsed.Path, shown) || within(parsed.Host, origin) {
		t.Error("an answer lies within what was handed in")
	}
}

func TestSameAnswersTwice(t *testing.T) {
	for range 2 {
		wantParse(t, "http://a/%", api.Target{}, api.ErrUri)
		wantParse(t, "http://A:81/b/..", api.Target{Host: "a", Port: 81, Path: "/"}, api.OK)
		wantAuthority(t, "a:", api.Target{}, api.ErrPort)
		wantAuthority(t, "A:81", api.Target{Host: "a", Port: 81}, api.OK)
	}
}
