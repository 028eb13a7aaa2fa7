package name_test

import (
	"math"
	"regexp"
	"strings"
	"testing"

	"fettle/name"
)

// letters are all bytes that may stand in a name.
const letters = "abcdefghijklmnopqrstuvwxyz0123456789.-_"

// The words of promise 4.1 in another form.
var (
	isOk   = regexp.MustCompile(`^[a-z0-9._-]{1,16}$`)
	isFile = regexp.MustCompile(`^[a-z0-9._-]{1,16}(/[a-z0-9._-]{1,16})?$`)
	isTemp = regexp.MustCompile(`^tmp/(0|[1-9][0-9]{0,2})\.(0|[1-9][0-9]{0,4})\.(0|[1-9][0-9]{0,4})$`)
)

// names are texts that are names, and wrong ones those that are none: too short, too long, with a byte that can't stand there.
var (
	names  = []string{"a", "z", "0", "9", "a.o", ".", "..", "-", "_", "manifest", "tmp", "claim", "lock", "1.2.3", "0123456789abcdef", "................"}
	wrongs = []string{"", "A", "a b", " a", "a ", "a\n", "\na", "a\x00", "\x00", "0123456789abcdefg", "\u00e9", "a\xff", "a:b", "$a", "\"a\"", "a\\b", "a+b", "a,b"}
)

// mustOk holds Ok of s to want.
func mustOk(t *testing.T, s string, want bool) {
	t.Helper()
	if got := name.Ok(s); got != want {
		t.Errorf("Ok(%q) = %v", s, got)
	}
}

// mustFile holds File of s to want.
func mustFile(t *testing.T, s string, want bool) {
	t.Helper()
	if got := name.File(s); got != want {
		t.Errorf("File(%q) = %v", s, got)
	}
}

// mustBeTemp holds Of of s to who and inc.
func mustBeTemp(t *testing.T, s string, who, inc int) {
	t.Helper()
	if w, i, ok := name.Of(s); !ok || w != who || i != inc {
		t.Errorf("Of(%q) = %d, %d, %v, want %d, %d", s, w, i, ok, who, inc)
	}
}

// mustBeNone holds Of of s to a false with zero values beside it (rule 4).
func mustBeNone(t *testing.T, s string) {
	t.Helper()
	if w, i, ok := name.Of(s); ok || w != 0 || i != 0 {
		t.Errorf("Of(%q) = %d, %d, %v, want 0, 0, false", s, w, i, ok)
	}
}

// Promise 4.1: each byte, alone and at each place of a name.
func TestOkOfEachByte(t *testing.T) {
	for i := range 256 {
		c := string([]byte{byte(i)})
		want := strings.Contains(letters, c)
		mustOk(t, c, want)
		mustFile(t, c, want)
		for at := range 16 {
			s := strings.Repeat("a", at) + c + strings.Repeat("z", 15-at)
			mustOk(t, s, want)
			mustFile(t, "dir/"+s, want)
			mustFile(t, s+"/base", want)
		}
	}
}

// Promise 4.1: 1 to 16 bytes, and no more; the lengths beyond count whole.
func TestOkOfEachLength(t *testing.T) {
	for _, c := range letters {
		for n := range 40 {
			mustOk(t, strings.Repeat(string(c), n), 1 <= n && n <= 16)
		}
	}
	for _, n := range []int{64, 128, 255, 256, 257, 272, 65535, 65536, 65537, 1 << 20, 1<<20 + 1} {
		mustOk(t, strings.Repeat("a", n), false)
	}
}

// Promise 4.1: what is a name, and what is none.
func TestOk(t *testing.T) {
	for _, s := range names {
		mustOk(t, s, true)
	}
	for _, s := range wrongs {
		mustOk(t, s, false)
	}
}

// Promise 4.1: letters, figures and signs of other scripts are none, nor is what is cut off amid one, or is no text; the last four runes end with a byte that may stand in a name.
func TestOkOfOtherLetters(t *testing.T) {
	for _, s := range []string{
		"\u00e9", "\u00df", "\uff41", "\uff11", "\u0663", "\u0430", "\u212a", "\u017f", "\u0131", "\u2024", "\u2010", "\uff3f", "\ufeffa",
		"\xc3", "\xa9", "\xc1\xa1", "\xed\xa0\x80", "\xff\xfe",
		"\u0161", "\u0130", "\u5f2e", "\U00010061",
	} {
		mustOk(t, s, false)
		mustOk(t, "a"+s, false)
		mustOk(t, s+"a", false)
		mustFile(t, "dir/"+s, false)
	}
}

// Promise 4.1: a file's name is a name, or two with one slash between; each of them is held to all that a name is held to.
func TestFile(t *testing.T) {
	for _, s := range append(append([]string{}, names...), wrongs...) {
		good := isOk.MatchString(s)
		mustFile(t, s, good)
		for _, x := range append(append([]string{}, names...), wrongs...) {
			mustFile(t, s+"/"+x, good && isOk.MatchString(x))
		}
	}
}

// Promise 4.1: the slash stands once, and stands between.
func TestFileSlashes(t *testing.T) {
	for _, s := range []string{"/", "//", "///", "a/", "/a", "a//b", "/a/b", "a/b/", "a/b/c", "a/b/c/d", "./a/b", "a/\n", "a\\b", "a\u2215b", "a\uff0fb", "a\x00/b", "a/b\x00"} {
		mustFile(t, s, false)
	}
	for n := range 36 {
		mustFile(t, strings.Repeat("a", n)+"/b", 1 <= n && n <= 16)
		mustFile(t, "a/"+strings.Repeat("b", n), 1 <= n && n <= 16)
		mustFile(t, strings.Repeat("c", n), 1 <= n && n <= 16)
	}
	for _, s := range names {
		mustOk(t, s+"/b", false)
		mustOk(t, "a/"+s, false)
	}
}

// Promise 4.1: a claim's name is `claim/` and what was given, whatever it is.
func TestClaim(t *testing.T) {
	for _, s := range append(append([]string{"claim/a", "/", "a/b", strings.Repeat("x", 1000)}, names...), wrongs...) {
		got := name.Claim(s)
		if got != "claim/"+s {
			t.Errorf("Claim(%q) = %q", s, got)
		}
		mustFile(t, got, isOk.MatchString(s))
		mustBeNone(t, got)
	}
}

// Promise 4.1: a temp's name is its three numbers in decimal, in their order, each held to its own bounds.
func TestTemp(t *testing.T) {
	for _, x := range []struct {
		who, inc, n int
		want        string
	}{
		{0, 0, 0, "tmp/0.0.0"},
		{1, 2, 3, "tmp/1.2.3"},
		{10, 20, 30, "tmp/10.20.30"},
		{7, 12345, 13, "tmp/7.12345.13"},
		{998, 99998, 99997, "tmp/998.99998.99997"},
		{999, 99999, 99999, "tmp/999.99999.99999"},
		{1000, 0, 0, "tmp/999.0.0"},
		{0, 1000, 1000, "tmp/0.1000.1000"},
		{0, 100000, 0, "tmp/0.99999.0"},
		{0, 0, 100000, "tmp/0.0.99999"},
		{-1, 5, 5, "tmp/0.5.5"},
		{5, -1, 5, "tmp/5.0.5"},
		{5, 5, -1, "tmp/5.5.0"},
		{math.MinInt, math.MinInt, math.MinInt, "tmp/0.0.0"},
		{math.MaxInt, math.MaxInt, math.MaxInt, "tmp/999.99999.99999"},
		{1 << 32, 1 << 32, 1 << 32, "tmp/999.99999.99999"},
		{1<<32 + 7, -1 << 32, 1 << 31, "tmp/999.0.99999"},
	} {
		got := name.Temp(x.who, x.inc, x.n)
		if got != x.want {
			t.Errorf("Temp(%d, %d, %d) = %q, want %q", x.who, x.inc, x.n, got, x.want)
		}
		mustBeTemp(t, got, min(max(x.who, 0), 999), min(max(x.inc, 0), 99999))
		mustFile(t, got, true)
	}
}

// Promise 4.1: who and inc are told of each temp, whatever they are, and n is not taken for one of them.
func TestOfEachTemp(t *testing.T) {
	few := []int{0, 1, 9, 10, 11, 99, 100, 101, 998, 999, 1000, 1001, 9999, 10000, 54321, 99998, 99999}
	for who := range 1000 {
		mustBeTemp(t, name.Temp(who, 3, 5), who, 3)
		for _, inc := range few {
			for _, n := range few {
				mustBeTemp(t, name.Temp(who, inc, n), who, inc)
			}
		}
	}
	for inc := range 100000 {
		mustBeTemp(t, name.Temp(7, inc, 99999-inc), 7, inc)
	}
}

// Promise 4.1: what is no Temp is told by a false.
func TestOfOthers(t *testing.T) {
	for _, s := range []string{
		"", "tmp", "tmp/", "tmp//", "/", ".", "..", "...", "tmp/.", "tmp/..", "tmp/...",
		"1.2.3", "/1.2.3", "tmp1.2.3", "tmp.1.2.3", "tmp//1.2.3", "/tmp/1.2.3", "tmp/tmp/1.2.3", "tmp/1.2.3/", "tmp/1.2.3/tmp/1.2.3",
		"TMP/1.2.3", "Tmp/1.2.3", "temp/1.2.3", "tm/1.2.3", "claim/1.2.3", "lock/1.2.3", "xtmp/1.2.3", " tmp/1.2.3", "tmp/1.2.3 ", "tmp/1.2.3\n", "tmp/1.2.3\x00",
		"tmp/1", "tmp/1.2", "tmp/1.2.", "tmp/.2.3", "tmp/1..3", "tmp/1.2.3.", "tmp/1.2.3.4", "tmp/.1.2.3", "tmp/1.2..3", "tmp/1,2,3", "tmp/1.2,3", "tmp/1/2/3",
		"tmp/00.2.3", "tmp/01.2.3", "tmp/1.02.3", "tmp/1.2.03", "tmp/1.2.00", "tmp/001.2.3", "tmp/1.000002.3",
		"tmp/-1.2.3", "tmp/1.-2.3", "tmp/1.2.-3", "tmp/-0.0.0", "tmp/0.-0.0", "tmp/0.0.-0", "tmp/+1.2.3", "tmp/1.+2.3", "tmp/1.2.+3",
		"tmp/1000.2.3", "tmp/1.100000.3", "tmp/1.2.100000", "tmp/9999.2.3", "tmp/1.999999.3",
		"tmp/x.2.3", "tmp/1.x.3", "tmp/1.2.x", "tmp/0x1.2.3", "tmp/1.0b1.3", "tmp/1.2.0o3", "tmp/1e1.2.3", "tmp/1_0.2.3", "tmp/1.2_0.3", "tmp/ 1.2.3", "tmp/1. 2.3", "tmp/1.2. 3", "tmp/\u0663.2.3", "tmp/\uff11.2.3",
		"tmp/4294967297.2.3", "tmp/1.18446744073709551618.3", "tmp/1.2.18446744073709551619", "tmp/9223372036854775807.2.3", "tmp/9223372036854775808.2.3", "tmp/1.2.99999999999999999999", "tmp/1.2." + strings.Repeat("9", 1000), "tmp/" + strings.Repeat("0", 1000) + "1.2.3",
	} {
		mustBeNone(t, s)
	}
}

// Promise 4.1: of each text that is one byte away from a temp, whether it is one.
func TestOfNearTemps(t *testing.T) {
	for _, s := range []string{"tmp/0.0.0", "tmp/1.2.3", "tmp/10.20.30", "tmp/999.99999.99999"} {
		for at := range len(s) {
			mustAgree(t, s[:at]+s[at+1:])
			mustAgree(t, s[:at])
			mustAgree(t, s[at:])
			for c := range 256 {
				x := string([]byte{byte(c)})
				mustAgree(t, s[:at]+x+s[at+1:])
				mustAgree(t, s[:at]+x+s[at:])
				mustAgree(t, s+x)
			}
		}
	}
}

// mustAgree holds each call on s to the words in their other form.
func mustAgree(t *testing.T, s string) {
	t.Helper()
	mustOk(t, s, isOk.MatchString(s))
	mustFile(t, s, isFile.MatchString(s))
	parts := isTemp.FindStringSubmatch(s)
	if parts == nil {
		mustBeNone(t, s)
		return
	}
	mustBeTemp(t, s, number(parts[1]), number(parts[2]))
}

// number tells the number that s, figures alone, is.
func number(s string) int {
	n := 0
	for _, c := range s {
		n = 10*n + int(c-'0')
	}
	return n
}

// Promise 4.2 (W5): each temp has one name and each name is one temp's, so that a sweeper takes nobody else's for its own.
func TestTempsApart(t *testing.T) {
	type temp struct{ who, inc, n int }
	few := []int{0, 1, 2, 11, 12, 111, 112, 121, 999}
	seen := map[string]temp{}
	for _, who := range few {
		for _, inc := range few {
			for _, n := range few {
				s, x := name.Temp(who, inc, n), temp{who, inc, n}
				if was, there := seen[s]; there {
					t.Errorf("%v and %v are both %q", was, x, s)
				}
				seen[s] = x
			}
		}
	}
}

// Promise 4.2 (W5): the names that builders make are names of files, and none of what a manifest may name.
func TestMadeNamesAreFiles(t *testing.T) {
	for _, s := range []string{name.Temp(0, 0, 0), name.Temp(7, 100, 13), name.Temp(math.MaxInt, math.MaxInt, math.MaxInt), name.Claim("a"), name.Claim("0123456789abcdef")} {
		mustFile(t, s, true)
		mustOk(t, s, false)
	}
}

// Promise 4.1: nothing is kept from one call to the next.
func TestAgain(t *testing.T) {
	for range 2 {
		mustBeTemp(t, "tmp/1.2.3", 1, 2)
		mustBeNone(t, "tmp/1.2")
		mustOk(t, "a.o", true)
		mustOk(t, "A", false)
		mustFile(t, "a/b", true)
		mustFile(t, "a/b/c", false)
	}
}

// Promise 4.3: no call panics and each ends, on very long texts too.
func TestLongTexts(t *testing.T) {
	for _, s := range []string{"a", ".", "/", "1.", "tmp/", "0", "9", "-", "\xff", "a/"} {
		for _, ahead := range []string{"", "tmp/", "tmp/1.2.", "a/"} {
			long := ahead + strings.Repeat(s, 1<<20)
			mustOk(t, long, false)
			mustFile(t, long, false)
			mustBeNone(t, long)
			if len(name.Claim(long)) != 6+len(long) {
				t.Error("a long claim is cut")
			}
		}
	}
}

// Promises 4.2 and 4.3 (W5): any bytes are a name or none, no call panics, and a temp is the Temp of its numbers.
func FuzzNames(f *testing.F) {
	for _, s := range append(append([]string{"a/b", "tmp/1.2.3", "tmp/999.99999.99999", "tmp/01.2.3", "tmp/1.2.3.4", "claim/a"}, names...), wrongs...) {
		f.Add(s, 1, 2, 3)
	}
	f.Add("tmp/-1.2.3", math.MinInt, math.MaxInt, -1)
	f.Add("tmp/1000.2.3", 1000, 100000, 100000)
	f.Fuzz(func(t *testing.T, s string, who, inc, n int) {
		mustAgree(t, s)
		if name.Claim(s) != "claim/"+s {
			t.Errorf("Claim(%q)", s)
		}
		made := name.Temp(who, inc, n)
		if !isTemp.MatchString(made) {
			t.Errorf("Temp(%d, %d, %d) = %q", who, inc, n, made)
		}
		mustAgree(t, made)
		mustBeTemp(t, made, min(max(who, 0), 999), min(max(inc, 0), 99999))
	})
}
