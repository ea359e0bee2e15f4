package date_test

import (
	"math"
	"regexp"
	"strconv"
	"strings"
	"testing"
	"time"

	"conduit/api"
	"conduit/date"
)

const (
	shownForm  = "Mon, 02 Jan 2006 15:04:05 GMT"
	dashedForm = "Monday, 02-Jan-06 15:04:05 GMT"
	blankForm  = "Mon Jan _2 15:04:05 2006"
	lastDay    = 2932896
)

// farNumbers: numbers of 64 bits at which sums and products wrap, or nearly.
func farNumbers() []int {
	all := []int{math.MinInt, math.MinInt + 1, math.MaxInt, math.MaxInt - 1, -1, -2}
	for shift := 32; shift < 63; shift++ {
		all = append(all, 1<<shift, -1<<shift, 1<<shift+1970, 1<<shift+1)
	}
	return all
}

func utc(year, month, day int) time.Time {
	return time.Date(year, time.Month(month), day, 0, 0, 0, 0, time.UTC)
}

func wantDay(t *testing.T, year, month, day, want int, wantErrno api.Errno) {
	t.Helper()
	if n, errno := date.Day(year, month, day); n != want || errno != wantErrno {
		t.Errorf("Day(%d, %d, %d) = %d, %d; want %d, %d", year, month, day, n, errno, want, wantErrno)
	}
}

func wantNoCivil(t *testing.T, days int) {
	t.Helper()
	if y, m, d, errno := date.Civil(days); y != 0 || m != 0 || d != 0 || errno != api.ErrDate {
		t.Errorf("Civil(%d) = %d, %d, %d, %d; want ErrDate", days, y, m, d, errno)
	}
}

func wantShow(t *testing.T, second int, want string, wantErrno api.Errno) {
	t.Helper()
	if s, errno := date.Show(second); s != want || errno != wantErrno {
		t.Errorf("Show(%d) = %q, %d; want %q, %d", second, s, errno, want, wantErrno)
	}
}

func wantParse(t *testing.T, s string, want int, wantErrno api.Errno) {
	t.Helper()
	if n, errno := date.Parse(s); n != want || errno != wantErrno {
		t.Errorf("Parse(%q) = %d, %d; want %d, %d", s, n, errno, want, wantErrno)
	}
}

// P2.1, P2.2

func TestEveryDay(t *testing.T) {
	n := 0
	for at := utc(1970, 1, 1); at.Year() < 10000; at = at.AddDate(0, 0, 1) {
		year, month, day := at.Year(), int(at.Month()), at.Day()
		if got, errno := date.Day(year, month, day); got != n || errno != api.OK {
			t.Fatalf("Day(%d, %d, %d) = %d, %d; want %d", year, month, day, got, errno, n)
		}
		if y, m, d, errno := date.Civil(n); y != year || m != month || d != day || errno != api.OK {
			t.Fatalf("Civil(%d) = %d, %d, %d, %d; want %d, %d, %d", n, y, m, d, errno, year, month, day)
		}
		n++
	}
	if n != lastDay+1 {
		t.Errorf("%d days", n)
	}
}

func TestDay(t *testing.T) {
	wantDay(t, 1970, 1, 1, 0, api.OK)
	wantDay(t, 1970, 1, 31, 30, api.OK)
	wantDay(t, 1970, 12, 31, 364, api.OK)
	wantDay(t, 1971, 1, 1, 365, api.OK)
	wantDay(t, 2000, 2, 29, 11016, api.OK)
	wantDay(t, 9999, 12, 31, lastDay, api.OK)
}

func TestLengthsOfMonths(t *testing.T) {
	lengths := []int{31, 28, 31, 30, 31, 30, 31, 31, 30, 31, 30, 31}
	for _, year := range []int{1970, 1971, 1972, 1973, 1999, 2000, 2001, 2004, 2100, 2200, 2300, 2400, 2500, 9600, 9900, 9996, 9999} {
		for month := 1; month <= 12; month++ {
			last := lengths[month-1]
			if month == 2 && utc(year, 2, 29).Month() == 2 {
				last = 29
			}
			first := int(utc(year, month, 1).Unix() / 86400)
			wantDay(t, year, month, 0, 0, api.ErrDate)
			wantDay(t, year, month, -1, 0, api.ErrDate)
			wantDay(t, year, month, 1, first, api.OK)
			wantDay(t, year, month, last, first+last-1, api.OK)
			for day := last + 1; day <= 40; day++ {
				wantDay(t, year, month, day, 0, api.ErrDate)
			}
		}
	}
}

func TestLeapYears(t *testing.T) {
	for year, days := range map[int]int{1972: 29, 1996: 29, 2000: 29, 2001: 28, 2004: 29, 2100: 28, 2200: 28, 2300: 28, 2400: 29, 8000: 29, 9900: 28} {
		for day := 28; day <= 30; day++ {
			if _, errno := date.Day(year, 2, day); (errno == api.OK) != (day <= days) {
				t.Errorf("Day(%d, 2, %d): %d", year, day, errno)
			}
		}
	}
}

func TestDaysThatAreNone(t *testing.T) {
	for _, c := range [][3]int{
		{1969, 12, 31}, {1969, 1, 1}, {10000, 1, 1}, {0, 1, 1}, {-1970, 1, 1}, {70, 1, 1}, {1968, 2, 29},
		{2000, 0, 1}, {2000, 13, 1}, {2000, -1, 1}, {2000, 14, 1},
	} {
		wantDay(t, c[0], c[1], c[2], 0, api.ErrDate)
	}
	for _, n := range farNumbers() {
		wantDay(t, n, 1, 1, 0, api.ErrDate)
		wantDay(t, 2000, n, 1, 0, api.ErrDate)
		wantDay(t, 2000, 1, n, 0, api.ErrDate)
		wantDay(t, n, n, n, 0, api.ErrDate)
	}
}

func TestCivilOutside(t *testing.T) {
	for _, n := range append(farNumbers(), lastDay+1, lastDay+2, lastDay+365, lastDay+366) {
		wantNoCivil(t, n)
	}
}

// P2.3

func TestShow(t *testing.T) {
	wantShow(t, 0, "Thu, 01 Jan 1970 00:00:00 GMT", api.OK)
	wantShow(t, 59, "Thu, 01 Jan 1970 00:00:59 GMT", api.OK)
	wantShow(t, 60, "Thu, 01 Jan 1970 00:01:00 GMT", api.OK)
	wantShow(t, 3599, "Thu, 01 Jan 1970 00:59:59 GMT", api.OK)
	wantShow(t, 3600, "Thu, 01 Jan 1970 01:00:00 GMT", api.OK)
	wantShow(t, 86399, "Thu, 01 Jan 1970 23:59:59 GMT", api.OK)
	wantShow(t, 86400, "Fri, 02 Jan 1970 00:00:00 GMT", api.OK)
	wantShow(t, 784111777, "Sun, 06 Nov 1994 08:49:37 GMT", api.OK)
	wantShow(t, api.TimeCap, "Fri, 31 Dec 9999 23:59:59 GMT", api.OK)
	for _, n := range append(farNumbers(), api.TimeCap+1, api.TimeCap+86400) {
		if n < 0 || n > api.TimeCap {
			wantShow(t, n, "", api.ErrDate)
		}
	}
}

func TestShowOfManySeconds(t *testing.T) {
	for second := range 86400 {
		at := second*lastDay + second
		wantShow(t, at, time.Unix(int64(at), 0).UTC().Format(shownForm), api.OK)
	}
}

// P2.4

// manySeconds: seconds of all years, of each month's first and last days, of all hours, minutes and seconds.
func manySeconds() []int {
	var all []int
	for year := 1970; year <= 9999; year++ {
		for month := 1; month <= 12; month++ {
			if year > 2110 && (year+month)%97 != 0 {
				continue
			}
			first := int(utc(year, month, 1).Unix())
			all = append(all, first, first+8*86400+86399, first+9*86400+len(all)%86400)
			all = append(all, int(utc(year, month+1, 1).Unix())-1)
		}
	}
	return all
}

func TestParseOfEachForm(t *testing.T) {
	for _, second := range manySeconds() {
		at := time.Unix(int64(second), 0).UTC()
		wantParse(t, at.Format(shownForm), second, api.OK)
		wantParse(t, at.Format(blankForm), second, api.OK)
		if at.Year() <= 2069 {
			wantParse(t, at.Format(dashedForm), second, api.OK)
		}
	}
}

func TestParseOfWhatShowTells(t *testing.T) {
	for _, second := range append(manySeconds(), 0, 1, api.TimeCap-1, api.TimeCap) {
		s, _ := date.Show(second)
		wantParse(t, s, second, api.OK)
	}
}

func TestParse(t *testing.T) {
	for s, want := range map[string]int{
		"Sun, 06 Nov 1994 08:49:37 GMT":    784111777,
		"Sunday, 06-Nov-94 08:49:37 GMT":   784111777,
		"Sun Nov  6 08:49:37 1994":         784111777,
		"Thu, 01 Jan 1970 00:00:00 GMT":    0,
		"Thursday, 01-Jan-70 00:00:00 GMT": 0,
		"Thu Jan  1 00:00:00 1970":         0,
		"Fri, 31 Dec 9999 23:59:59 GMT":    api.TimeCap,
		"Fri Dec 31 23:59:59 9999":         api.TimeCap,
		"Friday, 31-Dec-99 23:59:59 GMT":   946684799,
		"Saturday, 01-Jan-00 00:00:00 GMT": 946684800,
		"Tuesday, 31-Dec-69 23:59:59 GMT":  3155759999,
		"Tue, 29 Feb 2000 00:00:00 GMT":    11016 * 86400,
		"Tuesday, 29-Feb-00 00:00:00 GMT":  11016 * 86400,
		"Tue Feb 29 00:00:00 2000":         11016 * 86400,
	} {
		wantParse(t, s, want, api.OK)
	}
}

func TestParseOfAllWeekdaysAndMonths(t *testing.T) {
	for _, weekday := range strings.Fields("Monday Tuesday Wednesday Thursday Friday Saturday Sunday monday FRIDAY Thurs Sunda Sundays") {
		for _, month := range strings.Fields("Jan Feb Mar Apr May Jun Jul Aug Sep Oct Nov Dec jan FEB mAr Sept Jänner anF") {
			for day := range 35 {
				two, blank := pad(day, "0"), pad(day, " ")
				wantAsOracle(t, weekday[:3]+", "+two+" "+month+" 1996 00:00:00 GMT")
				wantAsOracle(t, weekday+", "+two+" "+month+" 1996 00:00:00 GMT")
				wantAsOracle(t, weekday+", "+two+"-"+month+"-96 00:00:00 GMT")
				wantAsOracle(t, weekday[:3]+", "+two+"-"+month+"-96 00:00:00 GMT")
				wantAsOracle(t, weekday[:3]+" "+month+" "+blank+" 00:00:00 1996")
				wantAsOracle(t, weekday[:3]+" "+month+" "+two+" 00:00:00 1996")
				wantAsOracle(t, weekday+" "+month+" "+blank+" 00:00:00 1996")
			}
		}
	}
}

func TestParseOfAllTwoDigitYears(t *testing.T) {
	for year := range 100 {
		for _, weekday := range strings.Fields("Monday Tuesday Wednesday Thursday Friday Saturday Sunday") {
			wantAsOracle(t, weekday+", 28-Feb-"+pad(year, "0")+" 12:00:00 GMT")
			wantAsOracle(t, weekday+", 29-Feb-"+pad(year, "0")+" 12:00:00 GMT")
		}
	}
}

func TestParseOfAllClocks(t *testing.T) {
	for n := range 100 {
		two, blank := pad(n, "0"), pad(n, " ")
		for _, clock := range []string{two + ":59:59", "23:" + two + ":59", "23:59:" + two, blank + ":00:00", "00:" + blank + ":00", "00:00:" + blank} {
			wantAsOracle(t, "Sun, 06 Nov 1994 "+clock+" GMT")
			wantAsOracle(t, "Sunday, 06-Nov-94 "+clock+" GMT")
			wantAsOracle(t, "Sun Nov  6 "+clock+" 1994")
			wantAsOracle(t, "Sun Nov 06 "+clock+" 1994")
		}
	}
}

func TestParseOfTextsNearby(t *testing.T) {
	for _, s := range []string{
		"Sun, 06 Nov 1994 08:49:37 GMT", "Sunday, 06-Nov-94 08:49:37 GMT", "Sun Nov  6 08:49:37 1994",
		"Wed, 31 Dec 2069 23:59:59 GMT", "Tuesday, 31-Dec-69 23:59:59 GMT", "Wed Nov 16 20:10:00 2026",
		"Wednesday, 11-Nov-70 00:00:00 GMT", "Saturday, 01-Jan-00 00:00:00 GMT", "Thu Jan  1 00:00:00 1970",
	} {
		for i := range len(s) + 1 {
			for c := range 256 {
				wantAsOracle(t, s[:i]+string([]byte{byte(c)})+s[i:])
				if i < len(s) {
					wantAsOracle(t, s[:i]+string([]byte{byte(c)})+s[i+1:])
				}
			}
			wantAsOracle(t, s[:i])
			wantAsOracle(t, s[i:])
			wantAsOracle(t, s[:i]+s+s[i:])
			if i < len(s) {
				wantAsOracle(t, s[:i]+s[i+1:])
			}
		}
	}
}

func TestParseOfWrongTexts(t *testing.T) {
	for _, s := range []string{
		"", " ", "0", "GMT", ", ", "784111777", strings.Repeat(" ", 29), strings.Repeat("0", 24), strings.Repeat("\xff", 29),
		"Mon, 06 Nov 1994 08:49:37 GMT", "Saturday, 06-Nov-94 08:49:37 GMT", "Mon Nov  6 08:49:37 1994",
		"Sun, 6 Nov 1994 08:49:37 GMT", "Sun,  6 Nov 1994 08:49:37 GMT", "Sunday,  6-Nov-94 08:49:37 GMT",
		"Sun Nov 06 08:49:37 1994", "Sun Nov 6 08:49:37 1994", "Sun Nov   6 08:49:37 1994",
		"Sun, 06 Nov 1994 24:00:00 GMT", "Sun, 06 Nov 1994 08:60:37 GMT", "Sun, 06 Nov 1994 08:49:60 GMT",
		"Sunday, 06-Nov-94 24:00:00 GMT", "Sun Nov  6 08:49:60 1994", "Sun, 06 Nov 1994 -1:49:37 GMT",
		"SUN, 06 NOV 1994 08:49:37 GMT", "sun, 06 nov 1994 08:49:37 gmt", "Sun, 06 Nov 1994 08:49:37 Gmt",
		"Sun, 06 Nov 1994 08:49:37 UTC", "Sun, 06 Nov 1994 08:49:37", "Sun, 06 Nov 1994 08:49:37 GMT\n", " Sun, 06 Nov 1994 08:49:37 GMT",
		"Sun, 06-Nov-94 08:49:37 GMT", "Sun, 06-Nov-1994 08:49:37 GMT", "Sunday, 06 Nov 1994 08:49:37 GMT", "Sunday, 06-Nov-1994 08:49:37 GMT",
		"Sunday Nov  6 08:49:37 1994", "Sun Nov  6 08:49:37 GMT 1994", "Sun Nov  6 08:49:37 94", "1994-11-06T08:49:37Z",
		"Sun, Sunday, 06-Nov-94 08:49:37 GMT", ", 06-Nov-94 08:49:37 GMT", "Sunday, , 06-Nov-94 08:49:37 GMT",
		"Wed, 31 Dec 1969 23:59:59 GMT", "Wed Dec 31 23:59:59 1969", "Sat, 01 Jan 0000 00:00:00 GMT", "Thu, 01 Jan +970 00:00:00 GMT",
		"Thu, 29 Feb 2001 00:00:00 GMT", "Mon, 29 Feb 2100 00:00:00 GMT", "Mon, 01 Feb 2100 00:00:00 UTC", "Sun, 00 Nov 1994 08:49:37 GMT",
		"Mon, 31 Nov 1994 08:49:37 GMT", "Thu Nov 31 08:49:37 1994", "Thu Nov  0 08:49:37 1994", "Thu Nov    08:49:37 1994",
	} {
		wantParse(t, s, 0, api.ErrDate)
	}
}

// pad: a number in two places.
func pad(n int, ahead string) string {
	if n < 10 {
		return ahead + strconv.Itoa(n)
	}
	return strconv.Itoa(n)
}

var (
	shownText  = regexp.MustCompile(`^\w{3}, (\d\d) (\w{3}) (\d{4}) (\d\d):(\d\d):(\d\d) GMT$`)
	dashedText = regexp.MustCompile(`^\w+, (\d\d)-(\w{3})-(\d\d) (\d\d):(\d\d):(\d\d) GMT$`)
	blankText  = regexp.MustCompile(`^\w{3} (\w{3}) ([ \d]\d) (\d\d):(\d\d):(\d\d) (\d{4})$`)
)

// wantAsOracle: a text is a date just if the library writes the same one for the second that it says.
func wantAsOracle(t *testing.T, s string) {
	t.Helper()
	if second, ok := oracle(s); ok {
		wantParse(t, s, second, api.OK)
	} else {
		wantParse(t, s, 0, api.ErrDate)
	}
}

func oracle(s string) (int, bool) {
	if m := shownText.FindStringSubmatch(s); m != nil {
		return moment(s, shownForm, m[3], m[2], m[1], m[4:7])
	}
	if m := dashedText.FindStringSubmatch(s); m != nil {
		if m[3] < "70" {
			return moment(s, dashedForm, "20"+m[3], m[2], m[1], m[4:7])
		}
		return moment(s, dashedForm, "19"+m[3], m[2], m[1], m[4:7])
	}
	if m := blankText.FindStringSubmatch(s); m != nil {
		return moment(s, blankForm, m[6], m[1], strings.TrimSpace(m[2]), m[3:6])
	}
	return 0, false
}

func moment(s, form, year, month, day string, clock []string) (int, bool) {
	const names = "JanFebMarAprMayJunJulAugSepOctNovDec"
	at := time.Date(value(year), time.Month(strings.Index(names, month)/3+1), value(day), value(clock[0]), value(clock[1]), value(clock[2]), 0, time.UTC)
	return int(at.Unix()), at.Format(form) == s && at.Year() >= 1970
}

func value(digits string) int {
	n, _ := strconv.Atoi(digits)
	return n
}

// P1, P2

func FuzzParse(f *testing.F) {
	f.Add("Sun, 06 Nov 1994 08:49:37 GMT")
	f.Add("Sunday, 06-Nov-94 08:49:37 GMT")
	f.Add("Sun Nov  6 08:49:37 1994")
	f.Fuzz(func(t *testing.T, s string) { wantAsOracle(t, s) })
}

func TestSameAnswersTwice(t *testing.T) {
	for range 2 {
		wantParse(t, "Mon, 06 Nov 1994 08:49:37 GMT", 0, api.ErrDate)
		wantParse(t, "Sun, 06 Nov 1994 08:49:37 GMT", 784111777, api.OK)
		wantShow(t, -1, "", api.ErrDate)
		wantShow(t, 784111777, "Sun, 06 Nov 1994 08:49:37 GMT", api.OK)
		wantDay(t, 2001, 2, 29, 0, api.ErrDate)
		wantDay(t, 2000, 2, 29, 11016, api.OK)
		wantNoCivil(t, -1)
	}
}
