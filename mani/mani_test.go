package mani_test

import (
	"bytes"
	"regexp"
	"runtime"
	"slices"
	"strconv"
	"strings"
	"testing"

	"fettle/acts"
	"fettle/api"
	"fettle/line"
	"fettle/mani"
	"fettle/name"
)

// part is what promise 7.1 says of a stretch of a line: how many names may stand, whether files' names or Outs, which signs end it and what comes then, and whether the line may end.
type part struct {
	least, most int
	file, out   bool
	next        map[string]string
	ends        bool
}

// parts are those of all lines, by a line's first word, and the sign ahead of them.
var parts = map[string]part{
	"let":     {least: 1, most: 1, next: map[string]string{"=": "let="}},
	"rule":    {least: 1, most: 4, file: true, out: true, next: map[string]string{":": "rule:"}},
	"rule:":   {most: 8, file: true, next: map[string]string{"|": "rule|", "=": "rule="}},
	"rule|":   {most: 8, file: true, next: map[string]string{"=": "rule="}},
	"phony":   {least: 1, most: 1, file: true, out: true, next: map[string]string{":": "phony:"}},
	"phony:":  {most: 8, file: true, ends: true},
	"default": {least: 1, most: 8, ends: true},
}

// action follows the words of promise 6.1 in another form, for words with one blank between.
var action = regexp.MustCompile(`^(text "[ !#-~]{0,64}"|in ([0-9]|1[0-5])|all)( ; (upper|lower|rev|(take|drop) (0|[1-9][0-9]{0,2})|twice|join "[ !#-~]{0,64}"|fail)){0,7}$`)

// reading is what was found so far by other.
type reading struct {
	lets map[string][]api.Word
	told api.Manifest
	at   []api.Word
}

// other follows the words of promise 7.1 in another form: by a table of parts.
func other(b []byte) (api.Manifest, api.Fault) {
	lines, fault := line.Split(b)
	o := reading{lets: map[string][]api.Word{}}
	for _, words := range lines {
		if fault = o.line(words[0], words[1:]); fault.Kind != 0 {
			break
		}
	}
	if fault.Kind == 0 {
		fault = o.behind()
	}
	if fault.Kind != 0 {
		return api.Manifest{}, fault
	}
	return o.told, fault
}

// wrong tells a fault at a word.
func wrong(kind int, w api.Word) api.Fault {
	return api.Fault{Kind: kind, Line: w.Line, Col: w.Col}
}

// line follows what is said of one line.
func (o *reading) line(first api.Word, words []api.Word) api.Fault {
	var row []api.Word
	for _, w := range words {
		if w.Quoted || w.Text[0] != '$' {
			row = append(row, w)
			continue
		}
		stands, let := o.lets[w.Text[1:]]
		if !let {
			return wrong(api.FVar, w)
		}
		for _, x := range stands {
			row = append(row, api.Word{Text: x.Text, Quoted: x.Quoted, Line: w.Line, Col: w.Col})
		}
	}
	begins := map[string]int{"let": 0, "rule": api.FRules, "phony": api.FRules, "default": api.FMany}
	full, begin := begins[first.Text]
	if !begin || first.Quoted {
		return wrong(api.FWord, first)
	}
	if full == api.FRules && len(o.told.Rules) == 64 || full == api.FMany && o.told.Default != nil {
		return wrong(full, first)
	}
	return o.walk(first, row)
}

// walk goes from part to part through a line.
func (o *reading) walk(first api.Word, row []api.Word) api.Fault {
	state, got := first.Text, map[string][]string{}
	for i, w := range row {
		p := parts[state]
		text, isSign := w.Text, !w.Quoted && strings.Contains(":|=;,", w.Text)
		switch {
		case isSign && (p.next[text] == "" || len(got[state]) < p.least):
			return wrong(api.FWord, w)
		case isSign:
			state = p.next[text]
		case w.Quoted || !name.Ok(text) || p.file && (text == "manifest" || text == "trace"):
			return wrong(api.FName, w)
		case len(got[state]) == p.most:
			return wrong(api.FMany, w)
		case p.out && o.out(text, got[state]):
			return wrong(api.FTwice, w)
		default:
			got[state] = append(got[state], text)
			if state == "default" {
				o.at = append(o.at, w)
			}
		}
		if state == "let=" {
			if i+17 < len(row) {
				return wrong(api.FMany, row[i+17])
			}
			o.lets[got["let"][0]] = row[i+1:]
			return api.Fault{}
		}
		if state == "rule=" {
			return o.rule(first, row[i+1:], got)
		}
	}
	if p := parts[state]; !p.ends || len(got[state]) < p.least {
		return wrong(api.FWord, first)
	}
	if state == "phony:" {
		o.told.Rules = append(o.told.Rules, api.Rule{Outs: got["phony"], Ins: got["phony:"], Phony: true})
	} else {
		o.told.Default = got["default"]
	}
	return api.Fault{}
}

// out tells whether s is one of l, or an Out of a line ahead.
func (o *reading) out(s string, l []string) bool {
	for _, r := range o.told.Rules {
		l = slices.Concat(l, r.Outs)
	}
	return slices.Contains(l, s)
}

// rule follows what is said of actions.
func (o *reading) rule(first api.Word, row []api.Word, got map[string][]string) api.Fault {
	rule := api.Rule{Outs: got["rule"], Ins: got["rule:"], Order: got["rule|"]}
	all := [][]api.Word{nil}
	for _, w := range row {
		if w.Text == "," && !w.Quoted {
			all = append(all, nil)
		} else {
			all[len(all)-1] = append(all[len(all)-1], w)
		}
	}
	for i, words := range all {
		at := append(slices.Clone(words), first)[0]
		if i == len(rule.Outs) {
			return wrong(api.FMany, at)
		}
		if !action.MatchString(spoken(words)) {
			return wrong(api.FAct, at)
		}
		do, _ := acts.Parse(words)
		rule.Acts = append(rule.Acts, do)
	}
	if len(all) < len(rule.Outs) {
		return wrong(api.FWord, first)
	}
	o.told.Rules = append(o.told.Rules, rule)
	return api.Fault{}
}

// spoken tells words with one blank between.
func spoken(words []api.Word) string {
	var l []string
	for _, w := range words {
		if w.Quoted {
			w.Text = `"` + w.Text + `"`
		}
		l = append(l, w.Text)
	}
	return strings.Join(l, " ")
}

// behind follows what is said of what comes behind all lines: which Rule another one reaches is asked of all three by three.
func (o *reading) behind() api.Fault {
	for _, w := range o.at {
		if !o.out(w.Text, nil) {
			return wrong(api.FDefault, w)
		}
	}
	n := len(o.told.Rules)
	reach := make([][]bool, n)
	for i, r := range o.told.Rules {
		reach[i] = make([]bool, n)
		for j, q := range o.told.Rules {
			reach[i][j] = slices.ContainsFunc(slices.Concat(r.Ins, r.Order), func(s string) bool { return slices.Contains(q.Outs, s) })
		}
	}
	for k := range n {
		for i := range n {
			for j := range n {
				reach[i][j] = reach[i][j] || reach[i][k] && reach[k][j]
			}
		}
	}
	for i := range n {
		if reach[i][i] {
			return api.Fault{Kind: api.FCycle}
		}
	}
	return api.Fault{}
}

// equal tells whether a and b are the same in another form: each thing as texts.
func equal(a, b api.Manifest) bool {
	return slices.Equal(flat(a), flat(b))
}

// flat tells all that stands in m as one row of texts, each list with its length ahead.
func flat(m api.Manifest) []string {
	list := func(l []string) []string { return append([]string{strconv.Itoa(len(l))}, l...) }
	all := append(list(m.Default), strconv.Itoa(len(m.Rules)))
	for _, r := range m.Rules {
		all = slices.Concat(all, list(r.Outs), list(r.Ins), list(r.Order), []string{strconv.FormatBool(r.Phony), strconv.Itoa(len(r.Acts))})
		for _, do := range r.Acts {
			all = append(all, string(acts.Bytes(do)))
		}
	}
	return all
}

// mustAgree holds Parse of b to the words in their other form, and b to what it was; and what it tells to what stands behind it.
func mustAgree(t *testing.T, b []byte) {
	t.Helper()
	kept := bytes.Clone(b)
	want, wrong := other(b)
	got, fault := mani.Parse(b)
	if fault != wrong || !equal(got, want) {
		t.Errorf("Parse(%s) = %v, %v, want %v, %v", short(b), got, fault, want, wrong)
	}
	if !bytes.Equal(kept, b) {
		t.Errorf("Parse(%s) changes what it is given", short(kept))
	}
	if fault.Kind == 0 {
		mustStand(t, got)
		mustComeBack(t, got)
	} else {
		mustBeWithin(t, b, fault)
	}
}

// mustComeBack holds Print of m to what Parse tells of it.
func mustComeBack(t *testing.T, m api.Manifest) {
	t.Helper()
	text := mani.Print(m)
	again, fault := mani.Parse(text)
	if fault.Kind != 0 || !mani.Same(again, m) || !equal(again, m) || !bytes.Equal(mani.Print(again), text) {
		t.Errorf("Parse(%s) = %v, %v, want %v", short(text), again, fault, m)
	}
}

// mustStand holds m to the bounds of promise 7.1.
func mustStand(t *testing.T, m api.Manifest) {
	t.Helper()
	good := len(m.Rules) <= 64 && len(m.Default) <= 8
	var outs []string
	for _, r := range m.Rules {
		n := len(r.Outs)
		outs = append(outs, r.Outs...)
		good = good && n >= 1 && n <= 4 && len(r.Ins) <= 8 && len(r.Order) <= 8
		if r.Phony {
			good = good && n == 1 && len(r.Order) == 0 && len(r.Acts) == 0
		} else {
			good = good && len(r.Acts) == n && !slices.ContainsFunc(r.Acts, func(l []api.Do) bool { return !acts.Ok(l) })
		}
		for _, s := range slices.Concat(r.Outs, r.Ins, r.Order) {
			good = good && name.Ok(s) && s != "manifest" && s != "trace"
		}
	}
	for _, s := range m.Default {
		good = good && slices.Contains(outs, s)
	}
	slices.Sort(outs)
	if !good || len(slices.Compact(slices.Clone(outs))) != len(outs) {
		t.Errorf("that is no manifest: %v", m)
	}
}

// mustBeWithin holds a fault to a place within b, and to a Kind.
func mustBeWithin(t *testing.T, b []byte, f api.Fault) {
	t.Helper()
	rows := bytes.Split(b, []byte{'\n'})
	if f.Kind == api.FCycle {
		if f.Line != 0 || f.Col != 0 {
			t.Errorf("Parse(%s) tells %v", short(b), f)
		}
	} else if f.Kind < api.FByte || f.Kind > api.FRules || f.Line < 1 || f.Line > len(rows) || f.Col < 1 || f.Col > len(rows[f.Line-1]) {
		t.Errorf("Parse(%s) tells %v", short(b), f)
	}
}

// mustSay holds Parse of s to what Print writes.
func mustSay(t *testing.T, s, want string) {
	t.Helper()
	m, fault := mani.Parse([]byte(s))
	if got := string(mani.Print(m)); fault != (api.Fault{}) || got != want {
		t.Errorf("Parse(%s) = %q, %v, want %q", short([]byte(s)), got, fault, want)
	}
	mustAgree(t, []byte(s))
}

// mustFault holds Parse of s to a fault with nothing beside it.
func mustFault(t *testing.T, s string, kind, number, col int) {
	t.Helper()
	m, fault := mani.Parse([]byte(s))
	if want := (api.Fault{Kind: kind, Line: number, Col: col}); fault != want || len(m.Rules) != 0 || len(m.Default) != 0 {
		t.Errorf("Parse(%s) = %v, %v, want %v", short([]byte(s)), m, fault, want)
	}
	mustAgree(t, []byte(s))
}

// short tells b so that it can be read.
func short(b []byte) string {
	if len(b) > 500 {
		return strconv.Quote(string(b[:500])) + ".."
	}
	return strconv.Quote(string(b))
}

// names tells n names with blanks between: n1 n2 ..
func names(n int) string {
	var l []string
	for i := range n {
		l = append(l, "n"+strconv.Itoa(i+1))
	}
	return strings.Join(l, " ")
}

// phonies tells n lines of phony rules.
func phonies(n int) string {
	var b strings.Builder
	for i := range n {
		b.WriteString("phony p" + strconv.Itoa(i) + " :\n")
	}
	return b.String()
}

// Promise 7.1: what stands in the lines is what Parse tells.
func TestParse(t *testing.T) {
	const text = `
# sums
let up = upper ; rev
rule a.o b.o : a.c b.c | ph = text "a, b" ; $up , in 1 ; take 9 ; drop 999

phony ph : a.h    # phony
rule all: a.o b.o=all;join "-";twice;lower;fail
default all ph`
	m, fault := mani.Parse([]byte(text))
	want := api.Manifest{Rules: []api.Rule{
		{Outs: []string{"a.o", "b.o"}, Ins: []string{"a.c", "b.c"}, Order: []string{"ph"}, Acts: [][]api.Do{
			{{Kind: api.AText, Text: "a, b"}, {Kind: api.AUpper}, {Kind: api.ARev}},
			{{Kind: api.AIn, N: 1}, {Kind: api.ATake, N: 9}, {Kind: api.ADrop, N: 999}},
		}},
		{Outs: []string{"ph"}, Ins: []string{"a.h"}, Phony: true},
		{Outs: []string{"all"}, Ins: []string{"a.o", "b.o"}, Acts: [][]api.Do{{{Kind: api.AAll}, {Kind: api.AJoin, Text: "-"}, {Kind: api.ATwice}, {Kind: api.ALower}, {Kind: api.AFail}}}},
	}, Default: []string{"all", "ph"}}
	if fault != (api.Fault{}) || !equal(m, want) || !mani.Same(m, want) {
		t.Errorf("%v, %v, want %v", m, fault, want)
	}
	mustAgree(t, []byte(text))
	for _, s := range []string{"", "\n", " \t\n# x\n", "let a =", "let a = b\nlet a = c"} {
		mustSay(t, s, "")
	}
}

// Promise 7.1: what line.Split refuses is told ahead of all else, wherever it stands.
func TestSplitAhead(t *testing.T) {
	for _, s := range []string{"", "foo\n", "rule A\n", "rule $x\n", "default x\n", "rule a : a = all\n", phonies(65)} {
		at := strings.Count(s, "\n") + 1
		mustFault(t, s+"\x01", api.FByte, at, 1)
		mustFault(t, s+"rule a \"", api.FQuote, at, 8)
		mustFault(t, s+"foo "+strings.Repeat("x", 65), api.FLong, at, 5)
	}
	mustFault(t, "foo \x01", api.FByte, 1, 5)
}

// Promise 7.1: a name that is let stands for its words from then on, till it is let anew.
func TestLet(t *testing.T) {
	mustSay(t, "let a = x\nrule $a : = all", "rule x : = all\n")
	mustSay(t, "let a = x\nlet a = y\nrule $a : = all", "rule y : = all\n")
	mustSay(t, "let a = x\nlet b = $a\nlet a = y\nrule $b $a : = all , all", "rule x y : = all , all\n")
	mustSay(t, "let a = x\nlet a = $a y\nrule $a : = all , all", "rule x y : = all , all\n")
	mustSay(t, "let a = x\nlet n = b\nlet $n = y\nrule $a $b : = all , all", "rule x y : = all , all\n")
	mustSay(t, "let rule = x\nlet let = y\nlet manifest = z\nlet trace =\nlet 0.-_9 = w\nrule $rule $let $manifest $0.-_9 : $trace = all , all , all , all $trace", "rule x y z w : = all , all , all , all\n")
	mustSay(t, "let a0123456789abcde = x\nrule $a0123456789abcde : = all", "rule x : = all\n")
	mustFault(t, "rule $a : = all\nlet a = x", api.FVar, 1, 6)
	mustFault(t, "let a = $a", api.FVar, 1, 9)
	mustFault(t, "let a = x\nrule $a$a : = all", api.FVar, 2, 6)
	mustFault(t, "let a = x\nrule $ax : = all", api.FVar, 2, 6)
	mustFault(t, "let a = x\nrule $A : = all", api.FVar, 2, 6)
	mustFault(t, "let a = x\nrule $ : = all", api.FVar, 2, 6)
	mustFault(t, "let a = x\nrule $$a : = all", api.FVar, 2, 6)
	mustFault(t, "let a = x\nrule x$a : = all", api.FName, 2, 6)
}

// Promise 7.1: the words may be any, signs and quoted ones too; what is put in is parted where they are.
func TestLetWords(t *testing.T) {
	mustSay(t, "let r = x : y | z = text \"a b\" ; rev , all\nrule w $r", "rule w x : y | z = text \"a b\" ; rev , all\n")
	mustSay(t, "let c = :\nlet o = |\nlet e = =\nlet s = ;\nlet m = ,\nrule a b $c d $o f $e all $s rev $m all", "rule a b : d | f = all ; rev , all\n")
	mustSay(t, "let q = \"$x\" \"=\" \"a\" \"\"\nlet j = text \"b\"\nrule a : = $j\n", "rule a : = text \"b\"\n")
	mustSay(t, "let q = \"$q\"\nrule a b : = text $q , all ; join $q", "rule a b : = text \"$q\" , all ; join \"$q\"\n")
	mustSay(t, "let n =\nrule $n a $n b $n : $n c $n | $n d $n = $n all $n ; $n rev $n , $n all $n\nphony $n p $n : $n\ndefault $n a $n", "rule a b : c | d = all ; rev , all\nphony p :\ndefault a\n")
	mustSay(t, "let w = A manifest \"\" a/b let : , = | ;\nphony a :", "phony a :\n")
	mustFault(t, "let q = \"a\"\nrule $q : = all", api.FName, 2, 6)
	mustFault(t, "let q = \":\"\nrule a $q = all", api.FName, 2, 8)
	mustFault(t, "let q = \",\"\nrule a b : = all $q all", api.FAct, 2, 14)
}

// Promise 7.1: what is put in has the place of what is put out, whatever place it had.
func TestLetPlaces(t *testing.T) {
	const lets = "let two = b B\nlet sign = = =\nlet many = " + "b c d e f\n" + "let bad = rev rev\n"
	mustFault(t, lets+"rule a $two : = all", api.FName, 5, 8)
	mustFault(t, lets+"rule a : $sign all", api.FAct, 5, 10)
	mustFault(t, lets+"rule a $sign", api.FWord, 5, 8)
	mustFault(t, lets+"rule $many : = all", api.FMany, 5, 6)
	mustFault(t, lets+"rule a b $many : = all", api.FTwice, 5, 10)
	mustFault(t, lets+"rule a : =  $bad", api.FAct, 5, 13)
	mustFault(t, lets+"\n\n  default $many", api.FDefault, 7, 11)
	mustFault(t, lets+"let two = $two $gone $two $lost", api.FVar, 5, 16)
}

// Promise 7.1: only words behind a line's first one that are not quoted are put out, but in every line, whatever stands ahead.
func TestLetWhere(t *testing.T) {
	mustFault(t, "let r = rule\n$r a : = all", api.FWord, 2, 1)
	mustFault(t, "$r a : = all", api.FWord, 1, 1)
	mustFault(t, "$r $a", api.FVar, 1, 4)
	mustSay(t, "rule a : = text \"$r\"", "rule a : = text \"$r\"\n")
	mustSay(t, "# $r\nphony a : # $r", "phony a :\n")
	for _, s := range []string{"foo", "\"rule\"", ":", "rule A", "rule a a :", "rule a : = foo", "rule a : = all , all", "phony", "phony a : | ", "let", "let a", "let A =", "let a = b = c", "default", "default a b c d e f g h i"} {
		mustFault(t, s+" $x $y", api.FVar, 1, len(s)+2)
	}
	mustFault(t, "phony a :\ndefault a\ndefault a $x", api.FVar, 3, 11)
}

// Promise 7.1: 16 words, and not one more; and a let line has one name, and a `=`.
func TestLetLine(t *testing.T) {
	for n := range 40 {
		s := "let a = " + strings.Repeat("; ", n)
		if n <= 16 {
			mustSay(t, s+"\nlet b = $a\n", "")
		} else {
			mustFault(t, s, api.FMany, 1, 41)
		}
	}
	const lets = "let e = 1 2 3 4 5 6 7 8\nlet n =\n"
	mustSay(t, lets+"let a = $e $n $e $n", "")
	mustFault(t, lets+"let a = $e $n $e $n x", api.FMany, 3, 21)
	mustFault(t, lets+"let a = x $e $n $e", api.FMany, 3, 17)
	mustFault(t, "let", api.FWord, 1, 1)
	mustFault(t, " let a", api.FWord, 1, 2)
	for _, s := range []string{":", "|", "=", ";", ","} {
		mustFault(t, "let "+s+" a", api.FWord, 1, 5)
		if s != "=" {
			mustFault(t, "let a "+s+" b", api.FWord, 1, 7)
		}
	}
	mustFault(t, "let A = b", api.FName, 1, 5)
	mustFault(t, "let \"a\" = b", api.FName, 1, 5)
	mustFault(t, "let \"=\" a", api.FName, 1, 5)
	mustFault(t, "let a0123456789abcdef = b", api.FName, 1, 5)
	mustFault(t, "let a b = c", api.FMany, 1, 7)
	mustFault(t, "let a b", api.FMany, 1, 7)
	mustFault(t, "let a manifest = c", api.FMany, 1, 7)
	mustFault(t, "let a B = c", api.FName, 1, 7)
	mustFault(t, "let a \"b\" = c", api.FName, 1, 7)
	mustFault(t, "let a \"=\" c", api.FName, 1, 7)
	mustFault(t, "let n =\nlet $n = a", api.FWord, 2, 8)
}

// Promise 7.1: a line begins with one of four words, which is not quoted.
func TestFirstWord(t *testing.T) {
	for _, s := range []string{"let", "rule", "phony", "default"} {
		for _, w := range []string{"\"" + s + "\"", strings.ToUpper(s), s + "s", s[1:], s + "#", s + "$"} {
			mustFault(t, "phony p :\n "+w+" p : = all", api.FWord, 2, 2)
		}
		mustFault(t, s, api.FWord, 1, 1)
		mustFault(t, "\n  "+s, api.FWord, 2, 3)
	}
	for _, w := range []string{"a", "\"\"", ":", "|", "=", ";", ",", "$", "all"} {
		mustFault(t, w, api.FWord, 1, 1)
		mustFault(t, w+" a : = all", api.FWord, 1, 1)
	}
}

// Promise 7.1: 1 to 4 Outs, 0 to 8 Ins, 0 to 8 of an Order; of phony rules 1 Out and 0 to 8 Ins; 1 to 8 of Default.
func TestHowMany(t *testing.T) {
	const rules = "rule n1 n2 n3 n4 : = all , all , all , all\nrule n5 n6 n7 n8 : = all , all , all , all\n"
	for n := range 30 {
		all := strings.TrimPrefix(strings.Repeat(" , all", n), " , ")
		for _, c := range []struct {
			ahead, behind, lines string
			least, most          int
		}{
			{"rule", " : = " + all, "", 1, 4},
			{"rule a :", " = all", "", 0, 8},
			{"rule a : b |", " = all", "", 0, 8},
			{"rule a : |", " = all", "", 0, 8},
			{"phony", " :", "", 1, 1},
			{"phony a :", "", "", 0, 8},
			{"default", "", rules, 1, 8},
		} {
			row := c.ahead
			if n > 0 {
				row += " " + names(n)
			}
			row += c.behind
			number := strings.Count(c.lines, "\n") + 1
			switch {
			case n < c.least && c.behind == "":
				mustFault(t, c.lines+row, api.FWord, number, 1)
			case n < c.least:
				mustFault(t, c.lines+row, api.FWord, number, len(c.ahead)+2)
			case n > c.most:
				mustFault(t, c.lines+row, api.FMany, number, len(c.ahead+" "+names(c.most))+2)
			default:
				mustSay(t, c.lines+row, c.lines+strings.Replace(row, "| =", "=", 1)+"\n")
			}
		}
	}
	mustSay(t, "rule a : b b | b b = all\ndefault a a\n", "rule a : b b | b b = all\ndefault a a\n")
}

// Promise 7.1: a word where a name may stand is a sign, or a name, or wrong; `manifest` and `trace` are none but behind let and default.
func TestNames(t *testing.T) {
	places := []string{"rule @ : = all", "rule x @ : = all , all", "rule x : @ = all", "rule x : y @ = all", "rule x : | @ = all", "rule x : y | z @ = all", "phony @ :", "phony x @ :", "phony x : @", "phony x : y @", "let @ = a", "let x @ = a", "default @", "default x @"}
	for i, s := range places {
		at := strings.Index(s, "@") + 1
		for _, w := range []string{"A", "aB", "a/b", "/", "a0123456789abcdef", "a#", "\"a\"", "\"\"", "\":\"", "\"=\"", "~", "x$", "0x!"} {
			mustFault(t, strings.Replace(s, "@", w, 1), api.FName, 1, at)
		}
		for _, w := range []string{"manifest", "trace"} {
			switch kept := strings.Replace(s, "@", w, 1); {
			case i < 10:
				mustFault(t, kept, api.FName, 1, at)
			case i == 11:
				mustFault(t, kept, api.FMany, 1, at)
			case i == 10:
				mustSay(t, kept, "")
			default:
				mustFault(t, "phony x :\n"+kept, api.FDefault, 2, at)
			}
		}
		for _, w := range []string{"manifest.", "traces", "0", ".", "-", "_", "a0123456789abcde", "rule", "all"} {
			mustAgree(t, []byte(strings.Replace(s, "@", w, 1)))
		}
		for _, w := range []string{";", ","} {
			mustFault(t, strings.Replace(s, "@", w, 1), api.FWord, 1, at)
		}
	}
	mustSay(t, "rule . - _ 0 : a0123456789abcde = all , all , all , all\nphony rule : phony\nphony let : default", "rule . - _ 0 : a0123456789abcde = all , all , all , all\nphony rule : phony\nphony let : default\n")
}

// Promise 7.1: each sign has its places, and a line ends where no more must stand.
func TestSigns(t *testing.T) {
	for s, at := range map[string]int{
		"rule : a = all": 6, "rule | a = all": 6, "rule = all": 6, "rule ; a": 6, "rule , a": 6,
		"rule a | b = all": 8, "rule a = all": 8, "rule a ; b": 8, "rule a , b : = all , all": 8,
		"rule a : : b = all": 10, "rule a : b : = all": 12, "rule a : b , c = all": 12, "rule a : b ; c = all": 12, "rule a : ; = all": 10,
		"rule a : | | = all": 12, "rule a : b | c | d = all": 16, "rule a : b | c : = all": 16, "rule a : | , b = all": 12, "rule a : | b ; = all": 14,
		"phony : a": 7, "phony = a": 7, "phony a = b": 9, "phony a | b": 9, "phony a , b": 9, "phony a : : b": 11, "phony a : = all": 11, "phony a : b = all": 13, "phony a : b | c": 13, "phony a : | c": 11, "phony a : b , c": 13, "phony a : ;": 11,
		"default : a": 9, "default a : b": 11, "default a = all": 11, "default a , b": 11, "default |": 9,
		"rule": 1, "rule a": 1, "rule a b c d": 1, "rule a :": 1, "rule a : b": 1, "rule a : b |": 1, "rule a : | b": 1, "phony": 1, "phony a": 1, "default": 1,
		"rule a b : = all": 1, "rule a b c : = all , all": 1, "rule a b c d : = all , all ; rev , text \"\"": 1,
	} {
		mustFault(t, s, api.FWord, 1, at)
		mustFault(t, "phony p :\n\t "+s+" # more", api.FWord, 2, at+2)
	}
}

// Promise 7.1: an Out is one but once, in its line and in all of them; phony rules' too.
func TestTwice(t *testing.T) {
	mustFault(t, "rule a a : = all , all", api.FTwice, 1, 8)
	mustFault(t, "rule a b c a : = all", api.FTwice, 1, 12)
	mustFault(t, "rule a b : = all , all\nrule c b : = all , all", api.FTwice, 2, 8)
	mustFault(t, "rule a : = all\nphony a :", api.FTwice, 2, 7)
	mustFault(t, "phony a :\nrule a : = all", api.FTwice, 2, 6)
	mustFault(t, "phony a :\n\n# b\nphony a :", api.FTwice, 4, 7)
	mustFault(t, phonies(40)+"phony q : p0\nrule r s t p39 : = all", api.FTwice, 42, 12)
	mustSay(t, "rule a : b = all\nrule b : = all", "rule a : b = all\nrule b : = all\n")
}

// Promise 7.1: of one word FName is told, then FMany, then FTwice; else what is first from the left.
func TestFirstFault(t *testing.T) {
	mustFault(t, "rule a b c d E : = all", api.FName, 1, 14)
	mustFault(t, "rule a b c d trace : = all", api.FName, 1, 14)
	mustFault(t, "rule a b c d a : = all", api.FMany, 1, 14)
	mustFault(t, "rule a a b c d e : = all", api.FTwice, 1, 8)
	mustFault(t, "rule a a B", api.FTwice, 1, 8)
	mustFault(t, "rule a B a", api.FName, 1, 8)
	mustFault(t, "phony a a :", api.FMany, 1, 9)
	mustFault(t, "phony a :\nphony b a :", api.FMany, 2, 9)
	mustFault(t, "phony a A :", api.FName, 1, 9)
	mustFault(t, "phony a trace :", api.FName, 1, 9)
	mustFault(t, "rule a : b c d e f g h i J = all", api.FName, 1, 26)
	mustFault(t, "phony a : b c d e f g h i trace", api.FName, 1, 27)
	mustFault(t, "default a b c d e f g h I", api.FName, 1, 25)
	mustFault(t, "default a b c d e f g h :", api.FWord, 1, 25)
	mustFault(t, "rule a : B", api.FName, 1, 10)
	mustFault(t, "rule a : b ; C = foo", api.FWord, 1, 12)
	mustFault(t, "rule a = foo , bar", api.FWord, 1, 8)
	mustFault(t, "rule a b : = foo", api.FAct, 1, 14)
	mustFault(t, "rule a b : = foo , all , all", api.FAct, 1, 14)
	mustFault(t, "foo\nrule A\n", api.FWord, 1, 1)
	mustFault(t, "rule A : = all\nfoo\n", api.FName, 1, 6)
	mustFault(t, "default x\nrule a : a = all\nrule b : = foo", api.FAct, 3, 12)
}

// Promise 7.1: Default is said once; a second line is one too many, whatever stands in it.
func TestDefault(t *testing.T) {
	const rules = "rule a b : = all , all\nphony c : a\n"
	for _, s := range []string{"a", "b", "c", "c b a", "a a"} {
		mustSay(t, rules+"default "+s, rules+"default "+s+"\n")
		mustSay(t, "default "+s+"\n"+rules, rules+"default "+s+"\n")
		for _, second := range []string{"default", "default a", "default A", "default :", "default x y", "default " + names(9)} {
			mustFault(t, rules+"default "+s+"\n "+second, api.FMany, 4, 2)
		}
	}
	mustFault(t, rules+"default x", api.FDefault, 3, 9)
	mustFault(t, rules+"default a b x y", api.FDefault, 3, 13)
	mustFault(t, "  default a x\n"+rules, api.FDefault, 1, 13)
	mustFault(t, rules+"rule d : e = all\ndefault d e", api.FDefault, 4, 11)
	mustFault(t, "default manifest", api.FDefault, 1, 9)
	mustFault(t, "default trace", api.FDefault, 1, 9)
}

// Promise 7.1: there is one action for each of Outs, and each is one that acts.Parse takes.
func TestActs(t *testing.T) {
	for _, s := range []string{"foo", "rev", ":", "|", "=", ";", "all ;", "; all", "all ; in 0", "all : rev", "all | rev", "all = rev", "text a", "in 16", "in 01", "all ; take 1000", "\"all\"", "all \";\" rev", "all ; rev ; rev ; rev ; rev ; rev ; rev ; rev ; rev", "all all", "\"\"", "a \",\" b", "all ; ; rev"} {
		mustFault(t, "rule a : = "+s, api.FAct, 1, 12)
		mustFault(t, "rule a b : = "+s+" , all", api.FAct, 1, 14)
		mustFault(t, "rule a b : = all , "+s, api.FAct, 1, 20)
		mustFault(t, "rule a b : = all ,"+s+", foo", api.FAct, 1, 19)
		mustFault(t, "rule a : = all , "+s, api.FMany, 1, 18)
	}
	for _, s := range []string{"all", "in 15", "text \"\"", "text \",\"", "text \"a , b\" ; join \";\"", "all ; rev ; rev ; rev ; rev ; rev ; rev ; rev", "all ; upper ; lower ; rev ; take 0 ; drop 999 ; twice ; fail"} {
		mustSay(t, "rule a : = "+s, "rule a : = "+s+"\n")
		mustSay(t, "rule a b c d : = "+s+" , in 0 , "+s+" , "+s, "rule a b c d : = "+s+" , in 0 , "+s+" , "+s+"\n")
	}
}

// Promise 7.1: an action without words is none, and has the place of the line's first word; one that is beyond the Outs is one too many, with words or without.
func TestActsWithoutWords(t *testing.T) {
	for _, s := range []string{"", ",", ", all", ", foo", ", ,", ", all , all"} {
		mustFault(t, "rule a : = "+s, api.FAct, 1, 1)
		mustFault(t, "\n  rule a b : = "+s, api.FAct, 2, 3)
		mustFault(t, "rule a b : = all , "+s, api.FAct, 1, 1)
		mustFault(t, "rule a : = foo , "+s, api.FAct, 1, 12)
	}
	mustFault(t, "\n  rule a : = all ,", api.FMany, 2, 3)
	mustFault(t, "rule a : = all , ,", api.FMany, 1, 1)
	mustFault(t, "rule a : = all , , all", api.FMany, 1, 1)
	mustFault(t, "rule a : = all , all , foo", api.FMany, 1, 18)
	mustFault(t, "rule a b c d : = all , all , all , all , all", api.FMany, 1, 42)
	mustFault(t, "rule a b c d : = all , all , all , all ,", api.FMany, 1, 1)
	mustFault(t, "let n =\nrule a : = $n", api.FAct, 2, 1)
	mustFault(t, "let n =\nrule a : = all , $n", api.FMany, 2, 1)
}

// Promise 7.1: 64 Rules, and not one more, phony ones too; the next is told ahead of all else in its line but FVar.
func TestMostRules(t *testing.T) {
	full := phonies(60) + "rule a b c d : = all , all , all , all\nrule e : = all\nphony f :\nrule g : = all\n"
	mustSay(t, full, full)
	mustSay(t, full+"let x = y\ndefault a p59 g\n", full+"default a p59 g\n")
	for _, s := range []string{"rule", "phony", "rule h : = all", "phony h :", "rule A", "rule a : = all", "phony a :", "rule : b", "rule h : = foo", "phony h : = all", "rule b c d e f"} {
		mustFault(t, full+"\n\n "+s, api.FRules, 67, 2)
		mustFault(t, full+s+"\nfoo", api.FRules, 65, 1)
		mustFault(t, full+s+" $x", api.FVar, 65, len(s)+2)
	}
	mustFault(t, full+"foo", api.FWord, 65, 1)
	mustFault(t, full+"\"rule\" h : = all", api.FWord, 65, 1)
	mustFault(t, full+"default h\nrule h : = all", api.FRules, 66, 1)
}

// Promise 7.1: Rules do not lead round, by Ins or Order; that is told behind all else, and without a place.
func TestCycle(t *testing.T) {
	for _, s := range []string{"rule a : a = all", "rule a : | a = all", "phony a : a", "rule a b : b = all , all", "rule a : b = all\nrule b : a = all", "rule a : b = all\nphony b : c\nrule c d : | a = all , all", "phony a : x y b\nphony b : z a", "phony x :\nphony y : x\nphony a : x b y\nphony b : y a", "rule a b : = all , all\nrule c d : a d = all , all"} {
		mustFault(t, s, api.FCycle, 0, 0)
		mustFault(t, s+"\ndefault a", api.FCycle, 0, 0)
		mustFault(t, s+"\ndefault a q", api.FDefault, strings.Count(s, "\n")+2, 11)
		mustFault(t, s+"\nfoo", api.FWord, strings.Count(s, "\n")+2, 1)
	}
	for _, s := range []string{"rule a : x = all\n", "rule a b : c = all , all\nrule d : a b = all\nrule c : = all\n", "phony a : b c\nphony b : d\nphony c : d\nphony d : e\n"} {
		mustSay(t, s, s)
	}
	var up, down strings.Builder
	for i := range 63 {
		up.WriteString("phony p" + strconv.Itoa(i) + " : p" + strconv.Itoa(i+1) + "\n")
		down.WriteString("phony p" + strconv.Itoa(63-i) + " : p" + strconv.Itoa(62-i) + "\n")
	}
	mustSay(t, up.String()+"phony p63 : q\n", up.String()+"phony p63 : q\n")
	mustSay(t, down.String()+"phony p0 : q\n", down.String()+"phony p0 : q\n")
	mustFault(t, up.String()+"phony p63 : p0", api.FCycle, 0, 0)
	mustFault(t, up.String()+"phony p63 : p62", api.FCycle, 0, 0)
	mustFault(t, down.String()+"phony p0 : p63", api.FCycle, 0, 0)
	mustFault(t, down.String()+"phony p0 : p1", api.FCycle, 0, 0)
}

// Promise 7.1: of all manifests of three rules that may need each other, those that lead round.
func TestAllCycles(t *testing.T) {
	outs := []string{"a", "b", "c"}
	for bits := range 1 << 9 {
		var b strings.Builder
		for i, out := range outs {
			b.WriteString("rule " + out + " " + out + "2 :")
			for j, in := range outs {
				if bits>>(3*i+j)&1 == 1 {
					b.WriteString(" " + []string{"", "|"}[i&1] + " " + in)
					if i&1 == 1 {
						break
					}
				}
			}
			b.WriteString(" = all , all\n")
		}
		mustAgree(t, []byte(b.String()))
	}
}

// Promise 7.2: one blank between words, a `|` only where there is an Order, a line of default only where there is one.
func TestPrint(t *testing.T) {
	mustSay(t, "rule\ta:b|c=all", "rule a : b | c = all\n")
	mustSay(t, "rule  a  b:=all;rev,text\"x  y\";join\"\"#", "rule a b : = all ; rev , text \"x  y\" ; join \"\"\n")
	mustSay(t, "rule a : | = all", "rule a : = all\n")
	mustSay(t, "rule a : b | = all", "rule a : b = all\n")
	mustSay(t, "rule a : | b = all", "rule a : | b = all\n")
	mustSay(t, "phony a:", "phony a :\n")
	mustSay(t, "phony a: b  c\n", "phony a : b c\n")
	mustSay(t, "default b a\n\nphony b:\nrule a:=in 7;take 0;drop 12;twice;upper;lower;rev;fail", "phony b :\nrule a : = in 7 ; take 0 ; drop 12 ; twice ; upper ; lower ; rev ; fail\ndefault b a\n")
	if b := mani.Print(api.Manifest{Rules: []api.Rule{}, Default: []string{}}); len(b) != 0 {
		t.Errorf("of none: %q", b)
	}
}

// full tells a manifest of all that may stand in one, each time anew.
func full() api.Manifest {
	return api.Manifest{Rules: []api.Rule{
		{Outs: []string{"a", "b"}, Ins: []string{"c"}, Order: []string{"d"}, Acts: [][]api.Do{{{Kind: api.AIn, N: 0}, {Kind: api.AJoin, Text: "x"}}, {{Kind: api.AAll}}}},
		{Outs: []string{"d"}, Ins: []string{"c"}, Phony: true},
	}, Default: []string{"a"}}
}

// Promise 7.1: Same tells whether two manifests are the same in each place; none is the same as nil.
func TestSame(t *testing.T) {
	for i, change := range []func(m *api.Manifest){
		func(m *api.Manifest) { m.Rules = nil },
		func(m *api.Manifest) { m.Rules = m.Rules[:1] },
		func(m *api.Manifest) { m.Rules = append(m.Rules, api.Rule{}) },
		func(m *api.Manifest) { slices.Reverse(m.Rules) },
		func(m *api.Manifest) { m.Default = nil },
		func(m *api.Manifest) { m.Default[0] = "d" },
		func(m *api.Manifest) { m.Default = append(m.Default, "a") },
		func(m *api.Manifest) { m.Rules[0].Outs[1] = "x" },
		func(m *api.Manifest) { slices.Reverse(m.Rules[0].Outs) },
		func(m *api.Manifest) { m.Rules[0].Outs = m.Rules[0].Outs[:1] },
		func(m *api.Manifest) { m.Rules[0].Ins[0] = "x" },
		func(m *api.Manifest) { m.Rules[0].Ins = nil },
		func(m *api.Manifest) { m.Rules[0].Order[0] = "c" },
		func(m *api.Manifest) { m.Rules[0].Order = nil },
		func(m *api.Manifest) { m.Rules[0].Ins, m.Rules[0].Order = []string{"c", "d"}, nil },
		func(m *api.Manifest) { m.Rules[0].Phony = true },
		func(m *api.Manifest) { m.Rules[1].Phony = false },
		func(m *api.Manifest) { m.Rules[0].Acts = nil },
		func(m *api.Manifest) { m.Rules[0].Acts = m.Rules[0].Acts[:1] },
		func(m *api.Manifest) { slices.Reverse(m.Rules[0].Acts) },
		func(m *api.Manifest) { m.Rules[0].Acts[0] = m.Rules[0].Acts[0][:1] },
		func(m *api.Manifest) { m.Rules[0].Acts[0][0].N = 1 },
		func(m *api.Manifest) { m.Rules[0].Acts[0][1].Text = "y" },
		func(m *api.Manifest) { m.Rules[0].Acts[1][0].Kind = api.ARev },
		func(m *api.Manifest) { m.Rules[1].Acts = [][]api.Do{nil} },
	} {
		m := full()
		change(&m)
		if mani.Same(m, full()) || mani.Same(full(), m) || !mani.Same(m, m) {
			t.Error("change", i, "is not seen")
		}
	}
	if !mani.Same(full(), full()) {
		t.Error("the same is another one")
	}
	none := api.Manifest{Rules: []api.Rule{}, Default: []string{}}
	if !mani.Same(none, api.Manifest{}) || !mani.Same(api.Manifest{}, none) {
		t.Error("nil is not none")
	}
	empty := api.Manifest{Rules: []api.Rule{{Outs: []string{}, Ins: []string{}, Order: []string{}, Acts: [][]api.Do{{}}}}}
	if zero := (api.Manifest{Rules: []api.Rule{{Acts: [][]api.Do{nil}}}}); !mani.Same(empty, zero) || !mani.Same(zero, empty) {
		t.Error("nil is not none within a Rule")
	}
}

// Promise 7.1: of all rows of words that begin as a line may, and as long as nothing is wrong but the line's end, what the words in their other form tell.
func TestAllShortLines(t *testing.T) {
	const ahead = "let v = b :\nlet n =\nphony p :\n"
	letters := []string{"a", "p", "A", "trace", ":", "|", "=", ",", ";", "all", `""`, "$v", "$n", "$x"}
	for _, first := range []string{"let", "rule", "phony", "default", "a", `"rule"`, "$v", ":"} {
		row := []string{first}
		var all func(left int)
		all = func(left int) {
			b := []byte(ahead + strings.Join(row, " "))
			mustAgree(t, b)
			_, fault := mani.Parse(b)
			if left == 0 || t.Failed() || fault.Col > 1 && fault.Kind != api.FDefault {
				return
			}
			for _, x := range letters {
				row = append(row, x)
				all(left - 1)
				row = row[:len(row)-1]
			}
		}
		all(4)
	}
}

// Promise 7.1: what is wrong with a line is wrong whatever stands behind it, but for a name that is not let.
func TestFromTheLeft(t *testing.T) {
	for _, s := range []string{"foo", "rule a a", "rule A", "rule a b c d e", "rule a : b B", "rule a =", "phony a b", "phony a : =", "let a b", "let :", "default A", "default a :", "rule a : = all , all", "rule a : = foo", "rule a b : = ,"} {
		_, want := mani.Parse([]byte(s))
		for _, behind := range []string{"a", ":", "=", "all", "B", "\"q\"", ", all", "\nfoo", "\nrule a : = all", "\ndefault x"} {
			mustFault(t, s+" "+behind, want.Kind, want.Line, want.Col)
		}
		mustFault(t, s+" : $x", api.FVar, 1, len(s)+4)
	}
}

// next tells numbers that look like any.
type next uint32

func (n *next) below(most int) int {
	*n = *n*1664525 + 1013904223
	return int(*n>>12) % most
}

// rows are the words of manifests in which all stands that may, line feeds among them.
func rows() [][]string {
	var l [][]string
	for _, s := range []string{
		`let v = upper ; rev \n rule a b : c d | e = text "x" ; $v , in 0 ; take 9 \n phony e : f \n rule z : a = all ; $v \n default z e \n`,
		`rule a : b = all \n rule b : | c = all \n phony c : d \n rule d : = text "" ; join "," \n default a b c d \n`,
		`let n = \n let o = a b \n let r = : $n x | y = all , all $n \n rule $o $r \n phony q : $o $n \n default $n $o q \n`,
	} {
		l = append(l, strings.Split(strings.ReplaceAll(s, `\n`, "\n"), " "))
	}
	return l
}

// Promise 7.3 (W5): of manifests in which words miss, stand twice, or are others, what the words in their other form tell.
func TestChangedManifests(t *testing.T) {
	letters := append(strings.Fields(`a b c d e z q x A trace manifest let rule phony default : | = , ; all in 0 9 rev text "x" "" "q $v $n $o $ fail foo # a/b`), "\n", "\x01")
	at := next(1)
	for _, row := range rows() {
		for range 12000 {
			changed := slices.Clone(row)
			for range at.below(4) {
				i := at.below(len(changed))
				switch word := letters[at.below(len(letters))]; at.below(4) {
				case 0:
					changed = slices.Delete(changed, i, i+1)
				case 1:
					changed = slices.Insert(changed, i, word)
				case 2:
					changed = slices.Insert(changed, i, changed[at.below(len(changed))])
				default:
					changed[i] = word
				}
			}
			mustAgree(t, []byte(strings.Join(changed, " ")))
			if t.Failed() {
				return
			}
		}
	}
}

// Promise 7.3 (W5): any bytes are a manifest, or a fault with its place.
func TestAnyBytes(t *testing.T) {
	const letters = "ab:|=;,$\" \n\trule let phony default all\x00\x7f\xff#"
	at := next(7)
	for range 20000 {
		b := make([]byte, at.below(60))
		for i := range b {
			b[i] = letters[at.below(len(letters))]
		}
		mustAgree(t, b)
		whole := []byte("rule a : b = all ; rev\nphony c : a\ndefault c\n")
		whole[at.below(len(whole))] = byte(at.below(256))
		mustAgree(t, whole)
		mustAgree(t, append(whole[:at.below(len(whole))], b...))
	}
}

// lists tells all lists of texts in m.
func lists(m api.Manifest) [][]string {
	l := [][]string{m.Default}
	for _, r := range m.Rules {
		l = append(l, r.Outs, r.Ins, r.Order)
	}
	return l
}

// Promise 7.1 (rule 3): what was told stays, whatever becomes of the bytes; and no two lists of it share memory, nor their spare room.
func TestNewMemory(t *testing.T) {
	const in = "let o = a b\nlet d = all ; rev\nrule $o : c | d = $d , $d\nrule e : $o = $d\nphony f : $o\ndefault $o e\n"
	b := append(make([]byte, 0, 1000), in...)
	got, fault := mani.Parse(b)
	want, _ := mani.Parse([]byte(in))
	if fault.Kind != 0 {
		t.Fatal(fault)
	}
	for i := range b[:cap(b)] {
		if i >= len(b) && b[:cap(b)][i] != 0 {
			t.Error("the spare room behind the bytes is changed")
		}
		b[:cap(b)][i] = 'z'
	}
	if !mani.Same(got, want) {
		t.Error("the manifest changes with the bytes")
	}
	for i, l := range lists(got) {
		for j := range l[:cap(l)] {
			l[:cap(l)][j] = "other"
		}
		for k, l := range lists(got) {
			if k > i && !slices.Equal(l, lists(want)[k]) {
				t.Error("list", i, "shares memory with list", k)
			}
		}
	}
	for i, r := range got.Rules {
		for j, do := range r.Acts {
			for n := range do[:cap(do)] {
				do[:cap(do)][n] = api.Do{Kind: api.AFail}
			}
			r.Acts[j] = nil
			for k, r := range got.Rules[i:] {
				for n, do := range r.Acts {
					if do != nil && !slices.Equal(do, want.Rules[i+k].Acts[n]) {
						t.Error("two actions share memory")
					}
				}
			}
		}
	}
	if again, _ := mani.Parse([]byte(in)); !mani.Same(again, want) {
		t.Error("what was told is kept")
	}
}

// roomy tells a manifest whose lists have spare room, each time anew.
func roomy() api.Manifest {
	m := full()
	m.Default = append(make([]string, 0, 4), m.Default...)
	m.Rules = append(make([]api.Rule, 0, 4), m.Rules...)
	for i, r := range m.Rules {
		for _, l := range []*[]string{&r.Outs, &r.Ins, &r.Order} {
			*l = append(make([]string, 0, 30), *l...)
		}
		for j, do := range r.Acts {
			r.Acts[j] = append(make([]api.Do, 0, 30), do...)
		}
		m.Rules[i] = r
	}
	return m
}

// Promise 7.2 (rule 3): Print and Same change nothing that they are given, nor the spare room; and what Print tells is new memory.
func TestGiven(t *testing.T) {
	m := roomy()
	b := mani.Print(m)
	text := string(b)
	if !mani.Same(m, roomy()) || !mani.Same(roomy(), m) {
		t.Error("the manifest is changed")
	}
	for _, l := range lists(m) {
		for _, s := range l[len(l):cap(l)] {
			if s != "" {
				t.Error("the spare room of a list is changed")
			}
		}
	}
	for _, do := range m.Rules[0].Acts {
		for _, d := range do[len(do):cap(do)] {
			if d != (api.Do{}) {
				t.Error("the spare room of an action is changed")
			}
		}
	}
	for i := range b[:cap(b)] {
		b[:cap(b)][i] = '!'
	}
	if string(mani.Print(m)) != text || !mani.Same(m, full()) {
		t.Error("the bytes share memory with something")
	}
	if want := "rule a b : c | d = in 0 ; join \"x\" , all\nphony d : c\ndefault a\n"; text != want {
		t.Errorf("%q, want %q", text, want)
	}
}

// Promise 7.1: nothing is kept from one call to the next: no name that is let, no Out, no Default.
func TestAgain(t *testing.T) {
	for range 2 {
		mustSay(t, "let a = x\nrule $a : = all\ndefault x", "rule x : = all\ndefault x\n")
		mustFault(t, "rule $a : = all", api.FVar, 1, 6)
		mustFault(t, "rule x x : = all", api.FTwice, 1, 8)
		mustSay(t, "", "")
	}
}

// Promise 7.4: no call panics and each ends, on very many bytes too.
func TestMany(t *testing.T) {
	const many = 1 << 18
	const lets = "let w = ; ; ; ; ; ; ; ; ; ; ; ; ; ; ; ;\nlet n = a b c d e f g h i j k l m n o p\nlet z =\n"
	for _, c := range []struct {
		ahead, again, behind string
		kind, number, col    int
	}{
		{"", "a ", "", api.FWord, 1, 1},
		{"", "\n", "", 0, 0, 0},
		{"", "let a = b\n", "", 0, 0, 0},
		{"", "phony a :\n", "", api.FTwice, 2, 7},
		{"rule ", "a ", "", api.FTwice, 1, 8},
		{"rule a : ", "b ", "", api.FMany, 1, 26},
		{"rule a : = all", " ; rev", "", api.FAct, 1, 12},
		{"rule a : = ", "all , ", "", api.FMany, 1, 18},
		{"rule a : = ", ", ", "", api.FAct, 1, 1},
		{"default ", "a ", "", api.FMany, 1, 25},
		{"let a = ", "b ", "", api.FMany, 1, 41},
		{"rule a : = all ; ", "$q ", "", api.FVar, 1, 18},
		{lets + "let a = ", "$w ", "", api.FMany, 4, 12},
		{lets + "let a = ", "$z ", "", 0, 0, 0},
		{lets + "rule x : = all ", "$w ", "", api.FAct, 4, 12},
		{lets + "rule x : = all , ", "$w ", "", api.FMany, 4, 18},
		{lets + "rule x : = ", "$z ", "all", 0, 0, 0},
		{lets + "rule ", "$n ", "", api.FMany, 4, 6},
		{lets + "rule x : = all ", "$w ", "$q", api.FVar, 4, 16 + 3*many},
		{lets + "foo ", "$w ", "", api.FWord, 4, 1},
		{lets, "let v = $n\n", "", 0, 0, 0},
	} {
		s := c.ahead + strings.Repeat(c.again, many) + c.behind
		m, fault := mani.Parse([]byte(s))
		if want := (api.Fault{Kind: c.kind, Line: c.number, Col: c.col}); fault != want || fault.Kind != 0 && len(m.Rules) != 0 {
			t.Errorf("many of %q behind %q: %v, want %v", c.again, c.ahead, fault, want)
		}
	}
}

// Promise 7.4: few bytes do not stand for more than can be held, however many words each `$` word stands for.
func TestRoom(t *testing.T) {
	const lets = "let a = ; ; ; ; ; ; ; ; ; ; ; ; ; ; ; ;\n"
	room := func(s string) uint64 {
		var ahead, behind runtime.MemStats
		b := []byte(lets + "rule x : = all" + strings.Repeat(s, 1<<18))
		runtime.ReadMemStats(&ahead)
		mani.Parse(b)
		runtime.ReadMemStats(&behind)
		return behind.TotalAlloc - ahead.TotalAlloc
	}
	if one, sixteen := room(" ;a"), room(" $a"); sixteen > 2*one {
		t.Errorf("%d bytes of memory, and %d where a word stands for 16", one, sixteen)
	}
}

// Promise 7.1: a line of very many words is as wrong as its first words are, wherever they come from.
func TestLongLines(t *testing.T) {
	const lets = "let w = ; rev ; rev ; rev ; rev ; rev ; rev ; rev ; rev\nlet z =\n"
	most := "text \"x\"" + strings.Repeat(" ; take 9", 7)
	line := "rule a b c d : e f g h i j k l | m n o p q r s t = " + strings.Join(slices.Repeat([]string{most}, 4), " , ")
	mustSay(t, line, line+"\n")
	mustSay(t, lets+line+strings.Repeat(" $z", 300), line+"\n")
	for n := range 60 {
		mustFault(t, lets+line+" ,"+strings.Repeat(" $w", n), api.FMany, 3, map[bool]int{true: 1, false: len(line) + 4}[n == 0])
		mustFault(t, line+" , all"+strings.Repeat(" , all", n), api.FMany, 1, len(line)+4)
		if n > 0 {
			mustFault(t, lets+line+strings.Repeat(" $w", n), api.FAct, 3, len(line)-len(most)+1)
		}
		mustAgree(t, []byte(lets+line+strings.Repeat(" $w", n)+" , "+strings.Repeat(" $w", n)+" $q"))
	}
}

// Promise 7.4: Print and Same of what Parse never told neither panic nor fail to end.
func TestNoManifest(t *testing.T) {
	const many = 1 << 16
	long := strings.Repeat("x", many)
	for _, m := range []api.Manifest{
		{Rules: []api.Rule{{}}},
		{Rules: []api.Rule{{Phony: true}}},
		{Rules: []api.Rule{{Acts: [][]api.Do{nil, {}}}}},
		{Rules: []api.Rule{{Acts: [][]api.Do{{{Kind: -1}, {Kind: 12, N: -7, Text: "\n\""}}}}}},
		{Rules: []api.Rule{{Outs: []string{"", "\n", long}, Phony: true, Order: []string{"a"}, Acts: [][]api.Do{{{}}}}}},
		{Rules: slices.Repeat([]api.Rule{{Outs: []string{"a"}}}, many), Default: slices.Repeat([]string{""}, many)},
	} {
		mani.Print(m)
		mani.Parse(mani.Print(m))
		if !mani.Same(m, m) || mani.Same(m, full()) || mani.Same(full(), m) {
			t.Error("Same of what is no manifest")
		}
	}
}

// Promises 7.1, 7.3 and 7.4 (W5): any bytes are a manifest, or a fault with its place, and no call panics.
func FuzzParse(f *testing.F) {
	for _, row := range rows() {
		f.Add([]byte(strings.Join(row, " ")))
	}
	for _, s := range []string{"", "rule a : a = all", "rule a : b | c = all ; rev\ndefault a", "phony a :\nphony a :", "let a = \"$\"\nrule b : = text $a", phonies(65), "rule a b : = all ,", "default x", "rule $x", "\"rule\" a", "\x01"} {
		f.Add([]byte(s))
	}
	f.Fuzz(mustAgree)
}
