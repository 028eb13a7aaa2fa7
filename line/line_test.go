package line_test

import (
	"bytes"
	"regexp"
	"slices"
	"strconv"
	"strings"
	"testing"

	"fettle/api"
	"fettle/line"
)

// most is how many bytes a word's text may have.
const most = 64

// piece parts a text (a rune a byte) into all that promise 5.1 speaks of: what parts words, a line's end, what holds nothing, a sign, a text in quotes whatever stands in it, a quote without an end, plain bytes, a byte that can't stand.
var piece = regexp.MustCompile(`([ \t]+)|(\n)|(#[^\n]*)|([:|=;,])|("[^"\n]*")|("[^"\n]*)|([!#-+\--9<>-{}~]+)|([^\n])`)

// What the groups of piece are.
const (
	_ = iota
	pBlank
	pEnd
	pRemark
	pSign
	pText
	pOpen
	pPlain
	pOther
)

// place is where something stands: how far from the beginning, and its line and column.
type place struct{ at, line, col int }

// found is a fault that stands somewhere in the bytes.
type found struct {
	place
	kind int
}

// reading is all that stands in bytes.
type reading struct {
	lines  [][]api.Word
	faults []found
}

// read follows the words of promise 5.1 in another form: all faults are gathered, and the first is chosen behind.
func read(b []byte) ([][]api.Word, api.Fault) {
	runes := make([]rune, len(b))
	for i, c := range b {
		runes[i] = rune(c)
	}
	var all reading
	var words []api.Word
	at := place{0, 1, 1}
	for _, m := range piece.FindAllStringSubmatch(string(runes), -1) {
		x := []rune(m[0])
		group := slices.IndexFunc(m[1:], func(s string) bool { return s != "" }) + 1
		if group == pEnd {
			all.lines, words = append(all.lines, words), nil
			at = place{at.at + 1, at.line + 1, 1}
			continue
		}
		words = all.add(words, group, x, at)
		at.at, at.col = at.at+len(x), at.col+len(x)
	}
	if at.at != len(b) {
		panic("piece leaves something out")
	}
	lines := slices.DeleteFunc(append(all.lines, words), func(l []api.Word) bool { return len(l) == 0 })
	return all.first(lines)
}

// add tells words with the word that x is, if it is one, and gathers what is wrong with x.
func (a *reading) add(words []api.Word, group int, x []rune, at place) []api.Word {
	switch group {
	case pSign, pPlain:
		if len(x) > most {
			a.faults = append(a.faults, found{at, api.FLong})
		}
		return append(words, api.Word{Text: string(x), Line: at.line, Col: at.col})
	case pText:
		if len(x) > most+2 {
			a.faults = append(a.faults, found{at, api.FLong})
		}
		for i, c := range x {
			if c < 32 || c > 126 {
				a.faults = append(a.faults, found{place{at.at + i, at.line, at.col + i}, api.FByte})
			}
		}
		return append(words, api.Word{Text: string(x[1 : len(x)-1]), Line: at.line, Col: at.col, Quoted: true})
	case pOpen:
		a.faults = append(a.faults, found{at, api.FQuote})
	case pOther:
		a.faults = append(a.faults, found{at, api.FByte})
	}
	return words
}

// first tells lines, or of the faults the one whose place is first.
func (a *reading) first(lines [][]api.Word) ([][]api.Word, api.Fault) {
	if len(a.faults) == 0 {
		return lines, api.Fault{}
	}
	f := slices.MinFunc(a.faults, func(x, y found) int { return x.at - y.at })
	return nil, api.Fault{Kind: f.kind, Line: f.line, Col: f.col}
}

// same tells whether x and y are the same words in the same lines.
func same(x, y [][]api.Word) bool {
	return slices.EqualFunc(x, y, slices.Equal)
}

// mustAgree holds Split of b to the words in their other form.
func mustAgree(t *testing.T, b []byte) {
	t.Helper()
	want, wrong := read(b)
	mustSplit(t, b, want, wrong)
}

// mustSplit holds Split of b to what it must tell, and b to what it was.
func mustSplit(t *testing.T, b []byte, want [][]api.Word, wrong api.Fault) {
	t.Helper()
	kept := bytes.Clone(b)
	got, fault := line.Split(b)
	if fault != wrong || !same(got, want) {
		t.Errorf("Split(%s) = %v, %v, want %v, %v", short(b), got, fault, want, wrong)
	}
	if !bytes.Equal(kept, b) {
		t.Errorf("Split(%s) changes what it is given", short(kept))
	}
}

// mustFault holds Split of b to a fault with nothing beside it.
func mustFault(t *testing.T, b string, kind, number, col int) {
	t.Helper()
	mustSplit(t, []byte(b), nil, api.Fault{Kind: kind, Line: number, Col: col})
}

// mustBe holds Split of b to the words of want: those of each line told by the texts, a text in quotes with a ' ahead.
func mustBe(t *testing.T, b string, want ...[]string) {
	t.Helper()
	got, fault := line.Split([]byte(b))
	var texts [][]string
	for _, words := range got {
		var l []string
		for _, w := range words {
			if w.Quoted {
				w.Text = "'" + w.Text
			}
			l = append(l, w.Text)
		}
		texts = append(texts, l)
	}
	if fault != (api.Fault{}) || !slices.EqualFunc(texts, want, slices.Equal) {
		t.Errorf("Split(%s) = %q, %v, want %q", short([]byte(b)), texts, fault, want)
	}
}

// short tells b so that it can be read.
func short(b []byte) string {
	if len(b) > 200 {
		return strconv.Quote(string(b[:200])) + ".."
	}
	return strconv.Quote(string(b))
}

// x tells so many bytes of a word.
func x(n int) string {
	return strings.Repeat("x", n)
}

// Promise 5.1: words, parted by blanks and tabs, with their places.
func TestPlaces(t *testing.T) {
	for _, c := range []struct {
		in   string
		want [][]api.Word
	}{
		{"a", [][]api.Word{{{Text: "a", Line: 1, Col: 1}}}},
		{"a:b", [][]api.Word{{{Text: "a", Line: 1, Col: 1}, {Text: ":", Line: 1, Col: 2}, {Text: "b", Line: 1, Col: 3}}}},
		{"\t ab\t\tcd \n", [][]api.Word{{{Text: "ab", Line: 1, Col: 3}, {Text: "cd", Line: 1, Col: 7}}}},
		{"\n\n  a\n \n#b\n\n\tc d\n", [][]api.Word{{{Text: "a", Line: 3, Col: 3}}, {{Text: "c", Line: 7, Col: 2}, {Text: "d", Line: 7, Col: 4}}}},
		{"a\"b c\"\"\"d\n=\"#\"e", [][]api.Word{{{Text: "a", Line: 1, Col: 1}, {Text: "b c", Line: 1, Col: 2, Quoted: true}, {Text: "", Line: 1, Col: 7, Quoted: true}, {Text: "d", Line: 1, Col: 9}}, {{Text: "=", Line: 2, Col: 1}, {Text: "#", Line: 2, Col: 2, Quoted: true}, {Text: "e", Line: 2, Col: 5}}}},
	} {
		mustSplit(t, []byte(c.in), c.want, api.Fault{})
		mustAgree(t, []byte(c.in))
	}
}

// Promise 5.1: lines end with a line feed, the last one may end with the bytes, and lines without words are left out.
func TestLines(t *testing.T) {
	mustSplit(t, nil, nil, api.Fault{})
	for _, s := range []string{"", "\n", "\n\n\n", " ", "\t", " \t\n\t \n ", "#", "#\n#", " # a \"\n", "##", "#\n"} {
		mustBe(t, s)
	}
	for _, s := range []string{"a", "a\n", "\na", "\n\na\n\n", " a \n", "#\na", "a\n#"} {
		mustBe(t, s, []string{"a"})
	}
	mustBe(t, "a\nb", []string{"a"}, []string{"b"})
	mustBe(t, "a\n\nb\n", []string{"a"}, []string{"b"})
	mustBe(t, "a b\n#c\nd", []string{"a", "b"}, []string{"d"})
	mustBe(t, "a :\nb\n: c\n", []string{"a", ":"}, []string{"b"}, []string{":", "c"})
}

// Promise 5.1: each sign is a word by itself, wherever it stands but in quotes, and behind a #.
func TestSigns(t *testing.T) {
	for _, s := range []string{":", "|", "=", ";", ","} {
		mustBe(t, s, []string{s})
		mustBe(t, s+s+s, []string{s, s, s})
		mustBe(t, "a"+s+"b", []string{"a", s, "b"})
		mustBe(t, "a "+s+"b"+s, []string{"a", s, "b", s})
		mustBe(t, s+"\""+s+"\""+s, []string{s, "'" + s, s})
		mustBe(t, "a#"+s+"#"+s, []string{"a#", s})
		mustBe(t, x(64)+s+x(64), []string{x(64), s, x(64)})
		mustBe(t, strings.Repeat(s, 100), slices.Repeat([]string{s}, 100))
	}
	mustBe(t, ":|=;,", []string{":", "|", "=", ";", ","})
	mustBe(t, "rule a.o : a.c | b = text \"x\" ; join \",\" , fail", []string{"rule", "a.o", ":", "a.c", "|", "b", "=", "text", "'x", ";", "join", "',", ",", "fail"})
}

// Promise 5.1: from a # at a word's beginning on the line holds nothing, whatever stands there; elsewhere it is a byte as others are.
func TestRemarks(t *testing.T) {
	for _, s := range []string{"#", "# b", "#\"", "# \x00\x01\x7f\xff\r", "#" + x(100), "##", "#:#"} {
		for _, ahead := range []struct {
			in   string
			want []string
		}{{"a ", []string{"a"}}, {"a\t", []string{"a"}}, {"a:", []string{"a", ":"}}, {"a |", []string{"a", "|"}}, {"=", []string{"="}}, {";", []string{";"}}, {",", []string{","}}, {"\"\"", []string{"'"}}, {"a\"b\"", []string{"a", "'b"}}} {
			mustBe(t, ahead.in+s, ahead.want)
			mustBe(t, ahead.in+s+"\nb", ahead.want, []string{"b"})
		}
		mustBe(t, s+"\nb", []string{"b"})
	}
	mustBe(t, "a#", []string{"a#"})
	mustBe(t, "a#b #c", []string{"a#b"})
	mustBe(t, "a#\"#\"#b", []string{"a#", "'#"})
	mustBe(t, "\"#a\" b", []string{"'#a", "b"})
	mustFault(t, "a#\x01", api.FByte, 1, 3)
	mustFault(t, "a#\"", api.FQuote, 1, 3)
}

// Promise 5.1: a text in quotes holds the bytes 32 to 126 but the quote, as they stand, and parts from what stands beside it.
func TestQuoted(t *testing.T) {
	var all []byte
	for c := byte(32); c < 127; c++ {
		if c != '"' {
			all = append(all, c)
			mustBe(t, "\""+string(rune(c))+"\"", []string{"'" + string(rune(c))})
		}
	}
	mustBe(t, "\""+string(all[:64])+"\"\""+string(all[64:])+"\"", []string{"'" + string(all[:64]), "'" + string(all[64:])})
	mustBe(t, "\"\"", []string{"'"})
	mustBe(t, "\"\"\"\"", []string{"'", "'"})
	mustBe(t, "\" a  b \"", []string{"' a  b "})
	mustBe(t, "a\"b\"c", []string{"a", "'b", "c"})
	mustBe(t, "\"a\\\"b", []string{"'a\\", "b"})
	mustBe(t, "'a b'", []string{"'a", "b'"})
}

// Promise 5.1: each byte alone, within a word, within quotes, and behind a #.
func TestEachByte(t *testing.T) {
	for i := range 256 {
		c := string([]byte{byte(i)})
		for _, s := range []string{c, "ab" + c + "cd", c + "a", "a" + c, "a " + c + " b", "\"ab" + c + "cd\"", "\"" + c + "\"", "\"" + c, "#" + c + "a", ":" + c + ":", "a\n\n b" + c, x(64) + c, x(63) + c, c + x(64), c + x(63)} {
			mustAgree(t, []byte(s))
		}
		stands := i == '\n' || i == '\t' || 32 <= i && i < 127
		if i == '"' {
			mustFault(t, "ab"+c, api.FQuote, 1, 3)
		} else if !stands {
			mustFault(t, "ab"+c, api.FByte, 1, 3)
			mustFault(t, "a\n\""+c+"\"", api.FByte, 2, 2)
		} else if _, f := line.Split([]byte("ab" + c)); f != (api.Fault{}) {
			t.Errorf("%q can't stand: %v", c, f)
		}
	}
}

// Promise 5.1: the same of each byte within quotes: blanks stand there, tabs do not.
func TestEachByteInQuotes(t *testing.T) {
	for i := range 256 {
		s := "a \"b" + string([]byte{byte(i)}) + "c\""
		switch {
		case i == '"':
			mustFault(t, s, api.FQuote, 1, 7)
		case i == '\n':
			mustFault(t, s, api.FQuote, 1, 3)
		case i < 32 || i > 126:
			mustFault(t, s, api.FByte, 1, 5)
		default:
			mustBe(t, s, []string{"a", "'b" + string(rune(i)) + "c"})
		}
	}
}

// Promise 5.1: a word of 64 bytes is none too long, one of 65 is; the quotes are no bytes of a text.
func TestLengths(t *testing.T) {
	for n := range 140 {
		for _, ahead := range []string{"", "a ", "a\n", ":", "\"\""} {
			for _, behind := range []string{"", " a", "\n", ":", "\"b\"", " #"} {
				mustAgree(t, []byte(ahead+x(n)+behind))
				mustAgree(t, []byte(ahead+"\""+x(n)+"\""+behind))
			}
		}
	}
	mustBe(t, x(64), []string{x(64)})
	mustFault(t, x(65), api.FLong, 1, 1)
	mustFault(t, "a\n b "+x(65)+" c", api.FLong, 2, 4)
	mustBe(t, "\""+x(64)+"\"", []string{"'" + x(64)})
	mustFault(t, "\""+x(65)+"\"", api.FLong, 1, 1)
	mustFault(t, "a \""+x(65)+"\"", api.FLong, 1, 3)
	mustFault(t, x(40)+"#"+x(24), api.FLong, 1, 1)
	mustBe(t, x(64)+":"+x(64)+"\""+x(64)+"\""+x(64), []string{x(64), ":", x(64), "'" + x(64), x(64)})
	for _, n := range []int{128, 255, 256, 257, 320, 65536, 65600, 1 << 20} {
		mustFault(t, x(n), api.FLong, 1, 1)
		mustFault(t, "\""+x(n)+"\"", api.FLong, 1, 1)
	}
}

// Promise 5.1: a text ends in its line, or not at all; then it is no word that could be too long.
func TestOpenQuotes(t *testing.T) {
	mustFault(t, "\"", api.FQuote, 1, 1)
	mustFault(t, "\"\n\"", api.FQuote, 1, 1)
	mustFault(t, "a \"b\nc\" d", api.FQuote, 1, 3)
	mustFault(t, "\"a\" \"b\" \"", api.FQuote, 1, 9)
	mustFault(t, "\n\na\"", api.FQuote, 3, 2)
	mustFault(t, "\"#", api.FQuote, 1, 1)
	mustFault(t, "\""+x(65), api.FQuote, 1, 1)
	mustFault(t, "\""+x(65)+"\n\"", api.FQuote, 1, 1)
	mustFault(t, "\"a\x00\tb", api.FQuote, 1, 1)
}

// Promise 5.1: of more than one fault the one whose place is first, with a word's or a quote's own ahead of what stands within.
func TestFirstFault(t *testing.T) {
	mustFault(t, "\x01\x02", api.FByte, 1, 1)
	mustFault(t, "a \x01\n\x02", api.FByte, 1, 3)
	mustFault(t, "a\x01\"", api.FByte, 1, 2)
	mustFault(t, "\"\x01", api.FQuote, 1, 1)
	mustFault(t, "\"a\" \x7f \"", api.FByte, 1, 5)
	mustFault(t, "\"\x01"+x(65)+"\"", api.FLong, 1, 1)
	mustFault(t, "\""+x(65)+"\x01\" \x02", api.FLong, 1, 1)
	mustFault(t, "\"\x01"+x(64)+"\"", api.FLong, 1, 1)
	mustFault(t, "\"\x01"+x(63)+"\"", api.FByte, 1, 2)
	mustFault(t, "\"\x01\x02\" \"", api.FByte, 1, 2)
	mustFault(t, x(65)+"\x01", api.FLong, 1, 1)
	mustFault(t, "\x01"+x(65), api.FByte, 1, 1)
	mustFault(t, x(40)+"\x01"+x(40), api.FByte, 1, 41)
	mustFault(t, x(65)+"\""+x(65), api.FLong, 1, 1)
	mustFault(t, "\" "+x(65), api.FQuote, 1, 1)
	mustFault(t, "#\x01\"\n"+x(65)+"\n\x01", api.FLong, 2, 1)
	mustFault(t, "a\r\nb\r\n", api.FByte, 1, 2)
	mustFault(t, "\ufeffa", api.FByte, 1, 1)
	mustFault(t, "a \u00e9", api.FByte, 1, 3)
}

// Promise 5.1: columns count bytes, not what is seen: a tab is one.
func TestColumns(t *testing.T) {
	mustSplit(t, []byte("\t\ta\t:"), [][]api.Word{{{Text: "a", Line: 1, Col: 3}, {Text: ":", Line: 1, Col: 5}}}, api.Fault{})
	mustFault(t, "\t \t\x80", api.FByte, 1, 4)
	b := []byte(strings.Repeat(" ", 1000) + "a\n" + strings.Repeat("\n", 1000) + strings.Repeat("\t", 500) + "b")
	mustSplit(t, b, [][]api.Word{{{Text: "a", Line: 1, Col: 1001}}, {{Text: "b", Line: 1002, Col: 501}}}, api.Fault{})
}

// Promise 5.1: of all short texts of the bytes that matter, what the words in their other form tell.
func TestAllShortTexts(t *testing.T) {
	for _, letters := range []string{"a\"# :\n\x01", "a\"#\t\x7f"} {
		var b []byte
		var all func(left int)
		all = func(left int) {
			mustAgree(t, b)
			if left == 0 || t.Failed() {
				return
			}
			for i := range len(letters) {
				b = append(b, letters[i])
				all(left - 1)
				b = b[:len(b)-1]
			}
		}
		all(5)
	}
}

// Promise 5.2 (W5): any bytes are words, each at its place, or a fault of a kind, at a place within the bytes.
func TestAnyBytes(t *testing.T) {
	const letters = "abz09.$-_#\"\" \t\n\n:|=;,\x00\r\x7f\x80\xff"
	state := uint32(1)
	for range 20000 {
		state = state*1664525 + 1013904223
		b := make([]byte, state>>16%60)
		for i := range b {
			state = state*1664525 + 1013904223
			b[i] = letters[int(state>>16)%(len(letters)-int(state>>8&4))]
		}
		mustAgree(t, b)
		mustStand(t, b)
	}
}

// mustStand holds what Split tells to what stands in b.
func mustStand(t *testing.T, b []byte) {
	t.Helper()
	rows := bytes.Split(b, []byte{'\n'})
	got, fault := line.Split(b)
	if fault != (api.Fault{}) {
		if len(got) != 0 || fault.Kind < api.FByte || fault.Kind > api.FLong || fault.Line < 1 || fault.Line > len(rows) || fault.Col < 1 || fault.Col > len(rows[fault.Line-1]) {
			t.Errorf("Split(%s) = %v, %v", short(b), got, fault)
		}
		return
	}
	for _, words := range got {
		if len(words) == 0 {
			t.Errorf("Split(%s) tells a line without words", short(b))
		}
		for _, w := range words {
			stands := w.Text
			if w.Quoted {
				stands = "\"" + w.Text + "\""
			}
			if len(w.Text) > most || w.Line != words[0].Line || !bytes.HasPrefix(rows[w.Line-1][w.Col-1:], []byte(stands)) {
				t.Errorf("Split(%s) tells %v", short(b), w)
			}
		}
	}
}

// Promise 5.1 (rule 3): what was told stays, whatever becomes of the bytes; and no two lists of it share memory, nor their spare room.
func TestNewMemory(t *testing.T) {
	const text = "a b \"c\"\nd:e\nf"
	b := append(make([]byte, 0, 100), text...)
	want, _ := line.Split(b)
	spare := b[len(b):cap(b)]
	got, _ := line.Split(b)
	for i := range b {
		b[i] = 'z'
	}
	if !bytes.Equal(spare, make([]byte, len(spare))) {
		t.Error("the spare room behind the bytes is changed")
	}
	if again, _ := line.Split([]byte(text)); !same(got, again) {
		t.Error("the words change with the bytes")
	}
	for i := range got {
		room := got[i][:cap(got[i])]
		for j := range room {
			room[j] = api.Word{Text: "other"}
		}
		for k := i + 1; k < len(got); k++ {
			if !slices.Equal(got[k], want[k]) {
				t.Error(i, "shares memory with", k)
			}
		}
	}
}

// Promise 5.1: nothing is kept from one call to the next.
func TestAgain(t *testing.T) {
	for range 2 {
		mustBe(t, "a b\nc", []string{"a", "b"}, []string{"c"})
		mustFault(t, "a\n\"", api.FQuote, 2, 1)
		mustBe(t, "")
	}
}

// Promise 5.3: no call panics and each ends, on very many bytes too.
func TestManyBytes(t *testing.T) {
	const many = 1 << 20
	for _, s := range []string{"a", "\"", " ", "\t", "\n", "#", ":", "\x00", "\xff", "\"\"", "a ", "a\n", "\"a\" ", "#\n", "\" ", "\"\n", "a:", "\"#", "#\""} {
		b := []byte(strings.Repeat(s, many))
		got, fault := line.Split(b)
		if fault.Kind != 0 && len(got) != 0 {
			t.Errorf("%q: words beside %v", s, fault)
		}
	}
	mustFault(t, strings.Repeat("a\n", many)+"\"", api.FQuote, many+1, 1)
	mustFault(t, strings.Repeat("a ", many)+"\x01", api.FByte, 1, 2*many+1)
	got, fault := line.Split([]byte(strings.Repeat("\"\"", many)))
	if fault != (api.Fault{}) || len(got) != 1 || len(got[0]) != many {
		t.Error("not all words of a long line are told", fault)
	}
}

// Promises 5.2 and 5.3 (W5): any bytes are words or a fault with its place, and no call panics.
func FuzzSplit(f *testing.F) {
	for _, s := range []string{"", "a", "a:b", "rule a : b | c = text \"x\" ; upper , in 0 # end\n", "\"\"\"", "a\r\n", x(65), "\"" + x(65) + "\"", "\"\x01" + x(64) + "\"", "#\x00\n\xff", "a#b", "\t\"\t\""} {
		f.Add([]byte(s))
	}
	f.Fuzz(func(t *testing.T, b []byte) {
		mustAgree(t, b)
		mustStand(t, b)
	})
}
