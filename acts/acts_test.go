package acts_test

import (
	"bytes"
	"encoding/binary"
	"math"
	"regexp"
	"slices"
	"strconv"
	"strings"
	"testing"

	"fettle/acts"
	"fettle/api"
	"fettle/line"
)

// form is what promise 6.1 says of a Kind: its word, whether it is an action's first, its greatest N (-1: it has none), whether it has a Text.
type form struct {
	kind  int
	word  string
	first bool
	most  int
	text  bool
}

// forms are all of them, by the numbers that the promise gives them.
func forms() []form {
	return []form{
		{1, "text", true, -1, true},
		{2, "in", true, 15, false},
		{3, "all", true, -1, false},
		{4, "upper", false, -1, false},
		{5, "lower", false, -1, false},
		{6, "rev", false, -1, false},
		{7, "take", false, 999, false},
		{8, "drop", false, 999, false},
		{9, "twice", false, -1, false},
		{10, "join", false, -1, true},
		{11, "fail", false, -1, false},
	}
}

// action follows the words of promise 6.1 in another form, for lines of words with one blank between.
var action = regexp.MustCompile(`^(text "[ !#-~]{0,64}"|in ([0-9]|1[0-5])|all)( ; (upper|lower|rev|(take|drop) (0|[1-9][0-9]{0,2})|twice|join "[ !#-~]{0,64}"|fail)){0,7}$`)

// x tells so many bytes of a text.
func x(n int) string {
	return strings.Repeat("x", n)
}

// at tells a later Do as the whole action that it stands in, if it is no first one.
func at(f form, d api.Do) []api.Do {
	if f.first {
		return []api.Do{d}
	}
	return []api.Do{{Kind: api.AAll}, d}
}

// words tells the words of one line.
func words(t *testing.T, s string) []api.Word {
	t.Helper()
	lines, fault := line.Split([]byte(s))
	if fault.Kind != 0 || len(lines) > 1 {
		t.Fatalf("%q is no line of words: %v", s, fault)
	}
	if len(lines) == 0 {
		return nil
	}
	return lines[0]
}

// parsed tells the action that s says.
func parsed(t *testing.T, s string) []api.Do {
	t.Helper()
	l, ok := acts.Parse(words(t, s))
	if !ok || !acts.Ok(l) {
		t.Fatalf("%q is refused", s)
	}
	return l
}

// mustSay holds Parse of s to want.
func mustSay(t *testing.T, s string, want ...api.Do) {
	t.Helper()
	given := words(t, s)
	kept := slices.Clone(given)
	if got, ok := acts.Parse(given); !ok || !slices.Equal(got, want) {
		t.Errorf("Parse(%s) = %v, %v, want %v", s, got, ok, want)
	}
	if !slices.Equal(given, kept) {
		t.Errorf("Parse(%s) changes what it is given", s)
	}
}

// mustRefuse holds Parse of the words to false, and nothing beside it.
func mustRefuse(t *testing.T, l []api.Word) {
	t.Helper()
	if got, ok := acts.Parse(l); ok || len(got) != 0 {
		t.Errorf("Parse of %d words, %v .. = %v, %v", len(l), l[:min(len(l), 20)], got, ok)
	}
}

// mustNotSay holds Parse of s to false.
func mustNotSay(t *testing.T, s string) {
	t.Helper()
	mustRefuse(t, words(t, s))
}

// mustCome holds Run to want.
func mustCome(t *testing.T, s string, in []string, want string) {
	t.Helper()
	if got, ok := acts.Run(parsed(t, s), values(in)); !ok || string(got) != want {
		t.Errorf("Run(%s, %q) = %q, %v, want %q", s, in, got, ok, want)
	}
}

// mustFail holds Run to false, and nothing beside it.
func mustFail(t *testing.T, l []api.Do, in []string) {
	t.Helper()
	if got, ok := acts.Run(l, values(in)); ok || len(got) != 0 {
		t.Errorf("Run(%v) of %d inputs = %q, %v", l, len(in), got, ok)
	}
}

// values tells texts as bytes.
func values(in []string) [][]byte {
	var l [][]byte
	for _, s := range in {
		l = append(l, []byte(s))
	}
	return l
}

// Promise 6.1: each word says its Kind, with a number or a text where it has one.
func TestEachWord(t *testing.T) {
	for _, f := range forms() {
		d, good := api.Do{Kind: f.kind}, ""
		if f.most >= 0 {
			d.N, good = 7, " 7"
		}
		if f.text {
			d.Text, good = "a ; b", ` "a ; b"`
		}
		ahead := ""
		if !f.first {
			ahead = "all ; "
		}
		mustSay(t, ahead+f.word+good, at(f, d)...)
		for _, more := range []string{"1", `""`, f.word, ":", "|", "=", ",", ";"} {
			mustNotSay(t, ahead+f.word+good+" "+more)
			mustNotSay(t, ahead+more+" "+f.word+good)
		}
		for _, wrong := range []string{`"` + f.word + `"`, strings.ToUpper(f.word), f.word + "x", f.word[1:], f.word + ".", f.word + "7"} {
			mustNotSay(t, ahead+wrong+good)
		}
		for arg, says := range map[string]bool{"": f.most < 0 && !f.text, "7": f.most >= 0, `"7"`: f.text, `""`: f.text, "a": false, ":": false} {
			if _, ok := acts.Parse(words(t, ahead+f.word+" "+arg)); ok != says {
				t.Errorf("%s%s %s: %v", ahead, f.word, arg, ok)
			}
		}
	}
}

// Promise 6.1: a number is 0, or digits without a nought ahead, up to its bound.
func TestNumbers(t *testing.T) {
	wrong := []string{"00", "01", "007", "-1", "-0", "+1", "+0", "1.0", "1e1", "1_0", "0x1", "0b1", "x", "1x", "x1", "a.o", "$1", "1#", "18446744073709551617", "9223372036854775808", "4294967296", "4294967297", "65536", "256999999999999999999", x(64), strings.Repeat("0", 64), strings.Repeat("1", 64)}
	for _, f := range forms() {
		if f.most < 0 {
			continue
		}
		ahead := ""
		if !f.first {
			ahead = "all ; "
		}
		for n := range 2100 {
			s := ahead + f.word + " " + strconv.Itoa(n)
			if n <= f.most {
				mustSay(t, s, at(f, api.Do{Kind: f.kind, N: n})...)
			} else {
				mustNotSay(t, s)
			}
			mustNotSay(t, ahead+f.word+" 0"+strconv.Itoa(n))
			mustNotSay(t, ahead+f.word+` "`+strconv.Itoa(n)+`"`)
		}
		for _, s := range wrong {
			mustNotSay(t, ahead+f.word+" "+s)
		}
		for _, s := range []string{"", " 1", "1 ", "1\n", "\x00", "\u0661", "\uff11"} {
			mustRefuse(t, append(words(t, ahead+f.word), api.Word{Text: s}))
		}
	}
}

// Promise 6.1: parts stand between signs `;`, one at least and eight at most, and none is without words.
func TestParts(t *testing.T) {
	mustNotSay(t, "")
	for n := range 12 {
		l := append([]api.Do{{Kind: api.AAll}}, slices.Repeat([]api.Do{{Kind: api.ARev}}, n)...)
		s := "all" + strings.Repeat(" ; rev", n)
		if n < 8 {
			mustSay(t, s, l...)
		} else {
			mustNotSay(t, s)
		}
		if n >= 2 {
			mustSay(t, "all;rev;rev", l[:3]...)
		}
		for i := range n + 2 {
			parts := slices.Insert(strings.Split(s, " ; "), i, "")
			mustNotSay(t, strings.Join(parts, " ; "))
		}
	}
	for _, s := range []string{";", ";;", "all ;", "; all", "all rev", "all ; rev rev", `all ";" rev`, `all ; "rev"`, `all ";"`, `";" ; all`, "all : rev", "all , rev", "all | rev", "all = rev", "all ; rev ,", ", all", "foo", "all ; foo", `"all"`, `""`, "all ; :"} {
		mustNotSay(t, s)
	}
	mustSay(t, `text ";" ; join ";"`, api.Do{Kind: api.AText, Text: ";"}, api.Do{Kind: api.AJoin, Text: ";"})
}

// Promise 6.1: the first is one of three, the others are none of these.
func TestFirst(t *testing.T) {
	arg := func(f form) api.Do { return api.Do{Kind: f.kind} }
	for _, f := range forms() {
		if got := acts.Ok([]api.Do{arg(f)}); got != f.first {
			t.Errorf("%s alone: %v", f.word, got)
		}
		for _, g := range forms() {
			for _, h := range forms() {
				l := []api.Do{arg(f), arg(g), arg(h)}
				if got := acts.Ok(l); got != (f.first && !g.first && !h.first) {
					t.Errorf("%s, %s, %s: %v", f.word, g.word, h.word, got)
				}
			}
		}
	}
}

// Promise 6.1: of all short rows of words, those that the other form takes.
func TestAllShortRows(t *testing.T) {
	letters := []string{"text", "in", "all", "rev", "take", "join", "fail", ";", "0", "15", "16", `""`, `"a"`, `"rev"`, ":"}
	var row []string
	var all func(left int)
	all = func(left int) {
		s := strings.Join(row, " ")
		got, ok := acts.Parse(words(t, s))
		if want := action.MatchString(s); ok != want || ok != acts.Ok(got) || !ok && len(got) != 0 {
			t.Errorf("Parse(%s) = %v, %v, want %v", s, got, ok, want)
		}
		if left == 0 || t.Failed() {
			return
		}
		for _, x := range letters {
			row = append(row, x)
			all(left - 1)
			row = row[:len(row)-1]
		}
	}
	all(5)
}

// Promise 6.1: words that stand in no line say what they say: the place is nothing to it, but the Text and Quoted are.
func TestWordsWithoutALine(t *testing.T) {
	far := api.Word{Text: "all", Line: -7, Col: math.MaxInt}
	if got, ok := acts.Parse([]api.Word{far}); !ok || !slices.Equal(got, []api.Do{{Kind: api.AAll}}) {
		t.Error(got, ok)
	}
	for _, s := range []string{"", " ", "all ", " all", "all;", "all ; rev", "all\x00", "upper", "\xff", "text \"a\"", x(1 << 20)} {
		mustRefuse(t, []api.Word{{Text: s}})
		mustRefuse(t, []api.Word{{Text: s, Quoted: true}})
		mustRefuse(t, []api.Word{far, {Text: ";"}, {Text: s + ";"}})
	}
	for _, s := range []string{x(65), "a\"b", "\n", "\t", "\x00", "\x1f", "\x7f", "\x80", "\xff", "\u00e9"} {
		mustRefuse(t, []api.Word{{Text: "text"}, {Text: s, Quoted: true}})
		mustRefuse(t, []api.Word{far, {Text: ";"}, {Text: "join"}, {Text: s, Quoted: true}})
	}
	mustRefuse(t, []api.Word{})
	mustRefuse(t, []api.Word{{}})
	mustRefuse(t, []api.Word{far, {}})
}

// Promise 6.1: a text is at most 64 bytes 32 to 126, none of them a quote.
func TestTexts(t *testing.T) {
	for _, f := range forms() {
		if !f.text {
			continue
		}
		for n := range 300 {
			if got := acts.Ok(at(f, api.Do{Kind: f.kind, Text: x(n)})); got != (n <= 64) {
				t.Errorf("%s of %d bytes: %v", f.word, n, got)
			}
		}
		for i := range 256 {
			for _, ahead := range []string{"", "ab", x(63)} {
				s := ahead + string([]byte{byte(i)})
				good := 32 <= i && i <= 126 && i != '"'
				if got := acts.Ok(at(f, api.Do{Kind: f.kind, Text: s})); got != good {
					t.Errorf("%s %q: %v", f.word, s, got)
				}
				if got := acts.Ok(at(f, api.Do{Kind: f.kind, Text: s[len(ahead):] + ahead})); got != good {
					t.Errorf("%s of %q ahead of %q: %v", f.word, s[len(ahead):], ahead, got)
				}
			}
		}
	}
}

// Promise 6.1: a number is within its bounds, and fields that a Kind does not name are zero.
func TestFields(t *testing.T) {
	numbers := []int{math.MinInt, -1 << 32, -256, -16, -1, 0, 1, 14, 15, 16, 17, 255, 256, 998, 999, 1000, 1 << 10, 1 << 16, 1 << 32, 1<<32 + 1, math.MaxInt}
	for _, f := range forms() {
		for _, n := range numbers {
			for _, s := range []string{"", "a", " "} {
				good := 0 <= n && n <= max(f.most, 0) && (s == "" || f.text)
				if got := acts.Ok(at(f, api.Do{Kind: f.kind, N: n, Text: s})); got != good {
					t.Errorf("%s %d %q: %v", f.word, n, s, got)
				}
				if good && acts.Ok(append(at(f, api.Do{Kind: f.kind, N: n, Text: s}), api.Do{Kind: api.ARev, N: 1})) {
					t.Errorf("%s %d %q hides what is behind it", f.word, n, s)
				}
			}
		}
	}
	for _, kind := range []int{math.MinInt, -3, -1, 0, 12, 13, 14, 255, 256 + api.AAll, 1<<32 + api.AAll, math.MaxInt} {
		if acts.Ok([]api.Do{{Kind: kind}}) || acts.Ok([]api.Do{{Kind: api.AAll}, {Kind: kind}}) {
			t.Errorf("%d is no Kind", kind)
		}
	}
}

// Promise 6.1: an action is 1 to 8 Dos.
func TestHowMany(t *testing.T) {
	if acts.Ok(nil) || acts.Ok([]api.Do{}) {
		t.Error("none is an action")
	}
	for n := 1; n < 300; n++ {
		l := append([]api.Do{{Kind: api.AIn, N: 3}}, slices.Repeat([]api.Do{{Kind: api.ATwice}}, n-1)...)
		if got := acts.Ok(l); got != (n <= 8) {
			t.Errorf("%d Dos: %v", n, got)
		}
		for i := range l {
			wrong := slices.Clone(l)
			wrong[i].Text = "a"
			if acts.Ok(wrong) {
				t.Errorf("the %d-th of %d Dos is not looked at", i, n)
			}
		}
	}
}

// six follows chapter 2: n in six bytes, the highest first.
func six(n int) []byte {
	return binary.BigEndian.AppendUint64(nil, uint64(n))[2:]
}

// written follows the words of promise 6.1: how many, each one's Kind, N, Text.
func written(l []api.Do) []byte {
	rows := [][]byte{six(len(l))}
	for _, d := range l {
		rows = append(rows, six(d.Kind), six(d.N), six(len(d.Text)), []byte(d.Text))
	}
	return bytes.Join(rows, nil)
}

// Promise 6.1: an action's bytes.
func TestBytes(t *testing.T) {
	for _, s := range []string{"all", "in 0", "in 15", `text ""`, `text "a b"`, `text "` + x(64) + `"`, "all ; upper ; lower ; rev ; take 999 ; drop 258 ; twice ; fail", `in 7 ; join ", " ; join ""`} {
		l := parsed(t, s)
		kept := slices.Clone(l)
		if got := acts.Bytes(l); !bytes.Equal(got, written(l)) {
			t.Errorf("Bytes(%s) = % x, want % x", s, got, written(l))
		}
		if !slices.Equal(l, kept) {
			t.Errorf("Bytes(%s) changes what it is given", s)
		}
	}
	want := []byte{0, 0, 0, 0, 0, 2, 0, 0, 0, 0, 0, 1, 0, 0, 0, 0, 0, 0, 0, 0, 0, 0, 0, 2, 'a', 'b', 0, 0, 0, 0, 0, 7, 0, 0, 0, 0, 1, 2, 0, 0, 0, 0, 0, 0}
	if got := acts.Bytes([]api.Do{{Kind: api.AText, Text: "ab"}, {Kind: api.ATake, N: 258}}); !bytes.Equal(got, want) {
		t.Errorf("% x", got)
	}
	if !bytes.Equal(acts.Bytes(nil), six(0)) || !bytes.Equal(acts.Bytes([]api.Do{}), six(0)) {
		t.Error("of none: not how many")
	}
}

// Promise 6.1: what is no action is written the same way, and its numbers are held as code holds them.
func TestBytesOfAnyDos(t *testing.T) {
	const top = 1 << 40
	for _, l := range [][]api.Do{{{}}, {{Kind: api.ARev}}, {{Kind: 12, N: 7, Text: "\x00\"\xff"}}, slices.Repeat([]api.Do{{Kind: api.AAll}}, 20), {{Kind: top, N: top, Text: x(70000)}}} {
		if got := acts.Bytes(l); !bytes.Equal(got, written(l)) {
			t.Errorf("Bytes of %d Dos: %d bytes, want %d", len(l), len(got), len(written(l)))
		}
	}
	if got, want := acts.Bytes([]api.Do{{Kind: -1, N: math.MinInt}, {Kind: math.MaxInt, N: top + 1}}), written([]api.Do{{}, {Kind: top, N: top}}); !bytes.Equal(got, want) {
		t.Errorf("% x, want % x", got, want)
	}
}

// came follows the words of promise 6.2 in another form: from the last Do back.
func came(l []api.Do, in []string) (string, bool) {
	if len(l) == 0 {
		return "", false
	}
	d := l[len(l)-1]
	s, ok := "", true
	if len(l) > 1 {
		s, ok = came(l[:len(l)-1], in)
	}
	if !ok {
		return "", false
	}
	switch d.Kind {
	case api.AText:
		s = d.Text
	case api.AIn:
		if len(in) <= d.N {
			return "", false
		}
		s = in[d.N]
	case api.AAll:
		s = strings.Join(in, "")
	case api.AUpper:
		s = letters(s, "abcdefghijklmnopqrstuvwxyz", "ABCDEFGHIJKLMNOPQRSTUVWXYZ")
	case api.ALower:
		s = letters(s, "ABCDEFGHIJKLMNOPQRSTUVWXYZ", "abcdefghijklmnopqrstuvwxyz")
	case api.ARev:
		back := ""
		for i := range len(s) {
			back = s[i:i+1] + back
		}
		s = back
	case api.ATake:
		if d.N < len(s) {
			s = s[:d.N]
		}
	case api.ADrop:
		if d.N < len(s) {
			s = s[d.N:]
		} else {
			s = ""
		}
	case api.ATwice:
		s += s
	case api.AJoin:
		var each []string
		for i := range len(s) {
			each = append(each, s[i:i+1])
		}
		s = strings.Join(each, d.Text)
	case api.AFail:
		return "", false
	}
	if len(s) > 256 {
		return "", false
	}
	return s, true
}

// letters tells s with those of from as those of to.
func letters(s, from, to string) string {
	b := []byte(s)
	for i := range b {
		if at := strings.IndexByte(from, b[i]); at >= 0 {
			b[i] = to[at]
		}
	}
	return string(b)
}

// mustAgree holds Run to the words in their other form, and what it is given to what it was.
func mustAgree(t *testing.T, l []api.Do, in []string) {
	t.Helper()
	given, kept := values(in), slices.Clone(l)
	want, good := "", false
	if acts.Ok(l) {
		want, good = came(l, in)
	}
	got, ok := acts.Run(l, given)
	if ok != good || string(got) != want {
		t.Errorf("Run(%v, %q) = %q, %v, want %q, %v", l, in, got, ok, want, good)
	}
	if !slices.EqualFunc(given, values(in), bytes.Equal) || !slices.Equal(l, kept) {
		t.Errorf("Run(%v, %q) changes what it is given", l, in)
	}
}

// eachByte is all bytes, one behind the other.
func eachByte() string {
	b := make([]byte, 256)
	for i := range b {
		b[i] = byte(i)
	}
	return string(b)
}

// Promise 6.2: what comes of each Do.
func TestRun(t *testing.T) {
	in := []string{"aB1", "xyz", ""}
	for s, want := range map[string]string{
		`text "a"`: "a", `text ""`: "", `text "q r"`: "q r",
		"in 0": "aB1", "in 1": "xyz", "in 2": "", "all": "aB1xyz",
		"all ; upper": "AB1XYZ", "all ; lower": "ab1xyz", "all ; rev": "zyx1Ba", "in 2 ; rev": "",
		"in 1 ; take 0": "", "in 1 ; take 2": "xy", "in 1 ; take 3": "xyz", "in 1 ; take 4": "xyz", "in 1 ; take 999": "xyz", "in 2 ; take 1": "",
		"in 1 ; drop 0": "xyz", "in 1 ; drop 2": "z", "in 1 ; drop 3": "", "in 1 ; drop 4": "", "in 1 ; drop 999": "", "in 2 ; drop 1": "",
		"in 0 ; twice": "aB1aB1", "in 2 ; twice": "",
		`in 1 ; join ", "`: "x, y, z", `in 1 ; join ""`: "xyz", `in 2 ; join "a"`: "", `in 1 ; take 1 ; join "a"`: "x", `in 1 ; take 2 ; join "a"`: "xay",
		`all ; rev ; take 2 ; twice ; join "-"`: "z-y-z-y", `all ; take 2 ; rev ; drop 1 ; join "x" ; twice ; upper ; lower`: "aa",
		"all ; take 4 ; drop 3": "x", "all ; drop 3 ; take 4": "xyz", "all ; twice ; rev ; take 1": "z", "all ; take 1 ; drop 1 ; twice": "", `text "aB" ; join "Cd" ; upper`: "ACDB",
	} {
		mustCome(t, s, in, want)
		mustAgree(t, parsed(t, s), in)
	}
	mustCome(t, "all", nil, "")
	mustCome(t, `text "a"`, nil, "a")
	mustCome(t, `all ; join "a" ; twice ; rev ; upper ; take 0`, nil, "")
}

// Promise 6.2: each byte is what it is; only the letters become others, and no two bytes are taken for one.
func TestRunOfEachByte(t *testing.T) {
	for _, s := range []string{"in 0", "all", "in 0 ; upper", "in 0 ; lower", "in 0 ; upper ; lower", "in 0 ; rev", "in 0 ; take 200", "in 0 ; drop 200", `in 0 ; join ""`, "in 0 ; take 128 ; twice", "in 0 ; drop 128 ; twice", "in 0 ; drop 240 ; " + `join "` + x(15) + `"`} {
		mustAgree(t, parsed(t, s), []string{eachByte()})
	}
	for i := range 256 {
		c := string([]byte{byte(i)})
		upper, lower := c, c
		if 'a' <= i && i <= 'z' {
			upper = string([]byte{byte(i - 32)})
		}
		if 'A' <= i && i <= 'Z' {
			lower = string([]byte{byte(i + 32)})
		}
		mustCome(t, "in 0 ; upper", []string{c}, upper)
		mustCome(t, "in 0 ; lower", []string{c}, lower)
		mustCome(t, `in 0 ; twice ; join "-"`, []string{c}, c+"-"+c)
	}
	for _, s := range []string{"\u00e9", "\u00df", "\u017f", "\u212a", "\u0131\xff", "\xc3"} {
		mustCome(t, "in 0 ; upper", []string{s}, s)
		mustCome(t, "in 0 ; lower", []string{s}, s)
	}
}

// Promise 6.2: the inputs are counted from 0, and one that in does not have is none.
func TestInputs(t *testing.T) {
	var in []string
	for n := range 20 {
		for i := range 16 {
			l := []api.Do{{Kind: api.AIn, N: i}}
			if i < n {
				mustCome(t, "in "+strconv.Itoa(i), in, in[i])
			} else {
				mustFail(t, l, in)
				mustFail(t, append(l, api.Do{Kind: api.ATake}), in)
			}
		}
		mustCome(t, "all", in, strings.Join(in, ""))
		mustCome(t, `text "a"`, in, "a")
		in = append(in, "n"+strconv.Itoa(n)+";")
	}
	mustFail(t, []api.Do{{Kind: api.AIn, N: 16}}, in)
	mustFail(t, []api.Do{{Kind: api.AIn, N: -1}}, in)
}

// Promise 6.2: 256 bytes may come of each Do, and not one more, whatever is behind it.
func TestMostBytes(t *testing.T) {
	for _, n := range []int{0, 1, 127, 128, 129, 255, 256, 257, 258, 512, 513, 65536, 65537} {
		for _, behind := range []string{"", " ; take 0", " ; drop 999", " ; rev ; take 1"} {
			for _, s := range []string{"in 0", "in 1", "all", "in 0 ; twice", `in 0 ; join ""`, `in 0 ; join "x"`, `in 0 ; drop 1 ; join "` + x(64) + `"`, "in 0 ; take 128 ; twice", "in 0 ; take 129 ; twice", "in 0 ; take 256 ; rev ; upper", "in 0 ; drop 1", `text "` + x(64) + `" ; twice ; twice`, `text "` + x(64) + `" ; twice ; twice ; twice`, `text "abcde" ; join "` + x(62) + `" ; drop 0`, `text "abcde" ; join "` + x(63) + `"`} {
				mustAgree(t, parsed(t, s+behind), []string{x(n), "b"})
			}
		}
	}
	in := []string{x(256), "a", ""}
	mustCome(t, "in 0", in, x(256))
	mustCome(t, "all", []string{x(200), "", x(56), ""}, x(256))
	mustCome(t, `in 0 ; take 4 ; join "`+x(63)+`"`, in, x(193))
	mustCome(t, "in 0 ; take 128 ; twice", in, x(256))
	mustCome(t, `text "abcde" ; join "`+x(62)+`"`, in, strings.Join([]string{"a", "b", "c", "d", "e"}, x(62)))
	for _, s := range []string{"all", "all ; take 1", "in 0 ; twice", "in 0 ; twice ; take 1", `in 0 ; join "x" ; take 1`, `in 0 ; join "x" ; fail`, `text "abcdef" ; join "` + x(51) + `"`} {
		mustFail(t, parsed(t, s), in)
	}
	mustFail(t, parsed(t, "in 0 ; take 1"), []string{x(257)})
	mustCome(t, "in 1 ; take 1", []string{x(257), "b"}, "b")
	mustCome(t, `text "c"`, []string{x(257), "b"}, "c")
}

// Promise 6.2: AFail is false wherever it stands.
func TestFail(t *testing.T) {
	for _, s := range []string{"all ; fail", `text "" ; fail`, "in 0 ; fail", "all ; fail ; take 0", "all ; rev ; fail ; twice", "all ; drop 999 ; fail", "all ; fail ; fail", "in 1 ; fail"} {
		mustFail(t, parsed(t, s), []string{"a"})
	}
}

// Promise 6.2: nothing comes of what is no action.
func TestRunOfNoAction(t *testing.T) {
	all := api.Do{Kind: api.AAll}
	for _, l := range [][]api.Do{nil, {}, {{}}, {{Kind: api.ARev}}, {{Kind: api.AFail}}, {all, all}, {all, {Kind: 12}}, {{Kind: 12}}, {{Kind: -1}}, {{Kind: api.AAll, N: 1}}, {{Kind: api.AAll, Text: "a"}}, {{Kind: api.AIn, N: 16}}, {{Kind: api.AIn, N: math.MinInt}}, {{Kind: api.AIn, N: math.MaxInt}}, {all, {Kind: api.ATake, N: 1000}}, {all, {Kind: api.ATake, N: -1}}, {all, {Kind: api.ADrop, N: math.MinInt}}, {all, {Kind: api.AUpper, N: 1}}, {{Kind: api.AText, Text: x(65)}}, {{Kind: api.AText, Text: "\n"}}, {all, {Kind: api.AJoin, Text: "\""}}, append([]api.Do{all}, slices.Repeat([]api.Do{{Kind: api.ARev}}, 8)...)} {
		mustFail(t, l, nil)
		mustFail(t, l, slices.Repeat([]string{"a"}, 20))
	}
}

// some are Dos of each Kind, with fields at which something changes.
func some() []api.Do {
	return []api.Do{{Kind: api.AText, Text: "aB"}, {Kind: api.AText, Text: x(64)}, {Kind: api.AIn}, {Kind: api.AIn, N: 1}, {Kind: api.AIn, N: 2}, {Kind: api.AAll}, {Kind: api.AUpper}, {Kind: api.ALower}, {Kind: api.ARev}, {Kind: api.ATake}, {Kind: api.ATake, N: 3}, {Kind: api.ADrop, N: 2}, {Kind: api.ADrop, N: 999}, {Kind: api.ATwice}, {Kind: api.AJoin}, {Kind: api.AJoin, Text: "-~"}, {Kind: api.AFail}, {Kind: 12}}
}

// Promise 6.2: of all short rows of Dos, what the words in their other form tell.
func TestAllShortActions(t *testing.T) {
	in := []string{"aBcD\x00\xff", x(120)}
	var row []api.Do
	var all func(left int)
	all = func(left int) {
		mustAgree(t, row, in)
		if left == 0 || t.Failed() {
			return
		}
		for _, d := range some() {
			row = append(row, d)
			all(left - 1)
			row = row[:len(row)-1]
		}
	}
	all(4)
}

// Promise 6.3 (W2): the same bytes come of the same, however often and whatever was run between; and other actions have other bytes.
func TestSame(t *testing.T) {
	in := [][]byte{[]byte("aBc"), []byte("\x00z")}
	told := map[string][]api.Do{}
	var each func(row []api.Do, left int)
	each = func(row []api.Do, left int) {
		b := string(acts.Bytes(row))
		if old, there := told[b]; there && !slices.Equal(old, row) {
			t.Fatalf("%v and %v have the same bytes", old, row)
		}
		told[b] = slices.Clone(row)
		if left == 0 {
			return
		}
		for _, d := range some() {
			each(append(row, d), left-1)
		}
	}
	each(nil, 3)
	came := map[string]string{}
	for range 3 {
		for b, l := range told {
			got, ok := acts.Run(l, in)
			now := strconv.FormatBool(ok) + string(got)
			if old, there := came[b]; there && old != now {
				t.Fatalf("of %v: %q, then %q", l, old, now)
			}
			came[b] = now
		}
	}
}

// Promise 6.2 (rule 3): what came stays, whatever becomes of the inputs, and the other way round; nor is the spare room touched.
func TestNewMemory(t *testing.T) {
	for _, s := range []string{"in 0", "all", "in 0 ; take 3", "in 0 ; drop 2", "in 0 ; rev", "in 0 ; upper", "in 0 ; lower", "in 0 ; twice", `in 0 ; join "-"`, "in 0 ; take 1 ; twice ; rev", "in 0 ; drop 1 ; upper ; take 2", `text "a"`} {
		l := parsed(t, s)
		for _, more := range []int{0, 1} {
			room := []byte("aBcDeFgH")
			in := append(make([][]byte, 0, 4), room[:5:8], room[:more:8])
			want, _ := acts.Run(l, [][]byte{[]byte("aBcDe"), []byte("a"[:more])})
			got, ok := acts.Run(l, in)
			if !ok || !bytes.Equal(got, want) {
				t.Errorf("%s: %q, want %q", s, got, want)
			}
			if string(room) != "aBcDeFgH" || in[:3][2] != nil {
				t.Errorf("%s: what was handed in is changed: %q", s, room)
			}
			for i := range room {
				room[i] = '?'
			}
			if !bytes.Equal(got, want) {
				t.Errorf("%s: what came changes with the inputs", s)
			}
			for i := range got[:cap(got)] {
				got[:cap(got)][i] = '!'
			}
			if strings.Contains(string(room), "!") {
				t.Errorf("%s: the inputs change with what came", s)
			}
			if again, _ := acts.Run(l, [][]byte{[]byte("aBcDe"), []byte("a"[:more])}); !bytes.Equal(again, want) {
				t.Errorf("%s: what came was kept", s)
			}
		}
	}
}

// Promise 6.1 (rule 3): the same of what Parse and Bytes tell, and of the lists that they are given.
func TestNewMemoryOfLists(t *testing.T) {
	given := append(make([]api.Word, 0, 20), words(t, `text "a" ; rev ; take 7`)...)
	got, _ := acts.Parse(given)
	want := []api.Do{{Kind: api.AText, Text: "a"}, {Kind: api.ARev}, {Kind: api.ATake, N: 7}}
	for i, w := range given[:cap(given)] {
		if i >= len(given) && w != (api.Word{}) {
			t.Error("the spare room behind the words is changed")
		}
		given[:cap(given)][i] = api.Word{Text: "other"}
	}
	if !slices.Equal(got, want) {
		t.Error("the action changes with the words")
	}
	for i := range got[:cap(got)] {
		got[:cap(got)][i] = api.Do{Kind: api.AFail}
	}
	mustSay(t, `text "a" ; rev ; take 7`, want...)

	dos := append(make([]api.Do, 0, 20), want...)
	acts.Ok(dos)
	acts.Run(dos, nil)
	b := acts.Bytes(dos)
	for _, d := range dos[len(dos):cap(dos)] {
		if d != (api.Do{}) {
			t.Error("the spare room behind the Dos is changed")
		}
	}
	for i := range b[:cap(b)] {
		b[:cap(b)][i] = '!'
	}
	if !bytes.Equal(acts.Bytes(dos), written(want)) || !slices.Equal(dos, want) {
		t.Error("the bytes share memory with something")
	}
}

// Promise 6.4: no call panics and each ends, on very many things too: none of them copies what it refuses.
func TestMany(t *testing.T) {
	const many = 1 << 17
	for _, w := range []api.Word{{}, {Text: ";"}, {Text: "all"}, {Text: "text"}, {Text: "in"}, {Text: "1"}, {Text: "a", Quoted: true}} {
		mustRefuse(t, slices.Repeat([]api.Word{w}, many))
	}
	long := append(slices.Repeat([]api.Word{{Text: "all"}, {Text: ";"}}, many), api.Word{Text: "all"})
	mustRefuse(t, long)
	mustRefuse(t, []api.Word{{Text: "in"}, {Text: strings.Repeat("1", many)}})
	mustRefuse(t, []api.Word{{Text: "text"}, {Text: x(many), Quoted: true}})
	dos := slices.Repeat([]api.Do{{Kind: api.AAll}}, many)
	if acts.Ok(dos) || acts.Ok([]api.Do{{Kind: api.AText, Text: x(many)}}) {
		t.Error("too much is Ok")
	}
	if b := acts.Bytes(dos); !bytes.Equal(b, written(dos)) {
		t.Errorf("%d bytes of many Dos", len(b))
	}
	if _, ok := acts.Run(dos, nil); ok {
		t.Error("too many Dos ran")
	}
	big := make([]byte, 1<<26)
	in := slices.Repeat([][]byte{big}, many)
	for _, s := range []string{"all", "in 0", "in 15", "all ; twice ; twice"} {
		if got, ok := acts.Run(parsed(t, s), in); ok || len(got) != 0 {
			t.Errorf("%s: %d bytes came", s, len(got))
		}
	}
	if got, ok := acts.Run(parsed(t, "all"), append(make([][]byte, many), []byte("a"))); !ok || string(got) != "a" {
		t.Errorf("of many empty inputs: %q, %v", got, ok)
	}
}

// dosOf makes any Dos of any bytes, four of them a Do, most of them near to what is one.
func dosOf(b []byte) []api.Do {
	var l []api.Do
	for ; len(b) >= 4; b = b[4:] {
		d := api.Do{Kind: int(int8(b[0])) % 14, N: int(int8(b[1])) * int(b[2])}
		if b[3] < 128 {
			d.Text = strings.Repeat(string(b[3:4]), int(b[1])%67)
		}
		if b[3]%4 != 0 && d.Kind != api.AText && d.Kind != api.AJoin {
			d.Text = ""
		} else if b[3]%8 != 0 {
			d.N = 0
		}
		l = append(l, d)
	}
	return l
}

// mustHold holds all calls to each other, of any bytes: as Dos, as inputs, and as words.
func mustHold(t *testing.T, dos, one, two []byte) {
	t.Helper()
	l := dosOf(dos)
	mustAgree(t, l, []string{string(one), string(two)})
	lines, _ := line.Split(one)
	for _, words := range lines {
		said, ok := acts.Parse(words)
		var row []string
		for _, w := range words {
			if w.Quoted {
				w.Text = `"` + w.Text + `"`
			}
			row = append(row, w.Text)
		}
		if s := strings.Join(row, " "); ok != action.MatchString(s) || ok != acts.Ok(said) {
			t.Errorf("Parse(%s) = %v, %v", s, said, ok)
		}
		if ok {
			mustAgree(t, said, []string{string(two), string(dos)})
		}
	}
}

// Promises 6.2 and 6.4: of any actions and inputs.
func TestAny(t *testing.T) {
	state := uint32(1)
	next := func() uint32 {
		state = state*1664525 + 1013904223
		return state >> 16
	}
	for range 20000 {
		var parts [3][]byte
		for i := range parts {
			parts[i] = make([]byte, next()%140)
			for j := range parts[i] {
				parts[i][j] = byte(next())
			}
		}
		parts[0] = parts[0][:len(parts[0])%36]
		if len(parts[0]) > 0 {
			parts[0][0] = parts[0][0]%3 + 1
		}
		mustHold(t, parts[0], parts[1], parts[2])
	}
}

// Promises 6.1, 6.2 and 6.4: any words are an action or none, any Dos give bytes or none, and no call panics.
func FuzzAll(f *testing.F) {
	for _, s := range []string{"", "all", `text "a" ; upper`, "in 0 ; take 3 ; twice", `all ; join ", "`, "all ; fail", "in 16", "all ; drop 01", `all ";" rev`} {
		f.Add([]byte{3, 0, 0, 1, 6, 0, 0, 1}, []byte(s), []byte("aB\xff"))
	}
	f.Fuzz(mustHold)
}
