package grph_test

import (
	"math/rand/v2"
	"slices"
	"strconv"
	"strings"
	"testing"

	"fettle/api"
	"fettle/grph"
	"fettle/mani"
)

// manifest tells one of lines like "a b : c d | e": Outs, Ins, Order; a `!` ahead says that it is Phony. A line of `default` and names is Default.
func manifest(lines ...string) api.Manifest {
	var m api.Manifest
	for _, s := range lines {
		if names, is := strings.CutPrefix(s, "default"); is {
			m.Default = strings.Fields(names)
			continue
		}
		var rule api.Rule
		s, rule.Phony = strings.CutPrefix(s, "!")
		outs, rest, _ := strings.Cut(s, ":")
		ins, order, _ := strings.Cut(rest, "|")
		rule.Outs, rule.Ins, rule.Order = strings.Fields(outs), strings.Fields(ins), strings.Fields(order)
		m.Rules = append(m.Rules, rule)
	}
	return m
}

// flat tells all that stands in m as one text.
func flat(m api.Manifest) string {
	var b strings.Builder
	for _, l := range append([][]string{m.Default}, lists(m)...) {
		b.WriteString(strconv.Itoa(len(l)) + " " + strings.Join(l, ",") + "\n")
	}
	return b.String()
}

// lists tells the lists of names of m's Rules.
func lists(m api.Manifest) [][]string {
	var all [][]string
	for _, rule := range m.Rules {
		all = append(all, rule.Outs, rule.Ins, rule.Order)
	}
	return all
}

// needs tells whether Rule i of m needs an Out of Rule j.
func needs(m api.Manifest, i, j int) bool {
	return slices.ContainsFunc(m.Rules[j].Outs, func(s string) bool {
		return slices.Contains(m.Rules[i].Ins, s) || slices.Contains(m.Rules[i].Order, s)
	})
}

// otherRules follows what promise 8.1 says of Rules in another form: every two Rules are held against each other.
func otherRules(m api.Manifest) ([]int, bool) {
	return otherOrder(placesIn(m), func(i int) []int {
		return slices.DeleteFunc(placesIn(m), func(j int) bool { return !needs(m, i, j) })
	})
}

// placesIn tells the places of m's Rules.
func placesIn(m api.Manifest) []int {
	var l []int
	for i := range m.Rules {
		l = append(l, i)
	}
	return l
}

// otherWanted follows what promise 8.1 says of Wanted in another form: Rules are wanted by names, or by a wanted one, till no more are.
func otherWanted(m api.Manifest, names []string) []int {
	order, _ := otherRules(m)
	if len(names) == 0 {
		names = m.Default
	}
	wanted := make([]bool, len(m.Rules))
	for range m.Rules {
		for i, rule := range m.Rules {
			named := len(names) == 0 || slices.ContainsFunc(rule.Outs, func(s string) bool { return slices.Contains(names, s) })
			wanted[i] = wanted[i] || named || slices.ContainsFunc(placesIn(m), func(j int) bool { return wanted[j] && needs(m, j, i) })
		}
	}
	return slices.DeleteFunc(order, func(i int) bool { return !wanted[i] })
}

// mustRules holds Rules to what it is to answer, and to new memory each time.
func mustRules(t *testing.T, m api.Manifest, want []int, ok bool) {
	t.Helper()
	was := flat(m)
	for range 2 {
		got, told := grph.Rules(m)
		if told != ok || !slices.Equal(got, want) {
			t.Errorf("Rules = %v, %v, want %v, %v, of\n%s", got, told, want, ok, was)
		}
		clear(got[:cap(got)])
	}
	if flat(m) != was {
		t.Errorf("Rules changes what it is given, to\n%s from\n%s", flat(m), was)
	}
}

// mustWant holds Wanted to what it is to answer, and to new memory each time.
func mustWant(t *testing.T, m api.Manifest, names []string, want []int) {
	t.Helper()
	was, asked := flat(m), strings.Join(names, ",")
	for range 2 {
		got := grph.Wanted(m, names)
		if !slices.Equal(got, want) {
			t.Errorf("Wanted of %v = %v, want %v, of\n%s", names, got, want, was)
		}
		clear(got[:cap(got)])
	}
	if flat(m) != was || strings.Join(names, ",") != asked {
		t.Errorf("Wanted of %v changes what it is given, to\n%s from\n%s", names, flat(m), was)
	}
}

// mustAgreeIn holds both calls on m to the words in their other form.
func mustAgreeIn(t *testing.T, m api.Manifest, names ...string) {
	t.Helper()
	want, ok := otherRules(m)
	mustRules(t, m, want, ok)
	mustWant(t, m, names, otherWanted(m, names))
	mustWant(t, m, nil, otherWanted(m, nil))
}

// Promise 8.1: the places of all Rules, each behind those that make its Ins and its Order, the first that may come next first.
func TestRules(t *testing.T) {
	for _, x := range []struct {
		lines []string
		want  []int
	}{
		{nil, nil},
		{[]string{"default a"}, nil},
		{[]string{"a :"}, []int{0}},
		{[]string{"a :", "b :", "c :"}, []int{0, 1, 2}},
		{[]string{"a : b", "b : c", "c :"}, []int{2, 1, 0}},
		{[]string{"a : | b", "b : | c", "c :"}, []int{2, 1, 0}},
		{[]string{"a : x | b", "b : y | z", "c : a"}, []int{1, 0, 2}},
		{[]string{"a : src", "b : src", "c : other src"}, []int{0, 1, 2}},
		{[]string{"a : c", "b :", "c :", "d : a"}, []int{1, 2, 0, 3}},
		{[]string{"all : a b", "a : src", "b : a"}, []int{1, 2, 0}},
		{[]string{"!all : a b", "!a : b", "b : src"}, []int{2, 1, 0}},
		{[]string{"x : l", "y : k", "h i j k :", "l m :"}, []int{2, 1, 3, 0}},
		{[]string{"x : a b c d e f g h", "h : x2 | y2", "x2 :", "y2 :"}, []int{2, 3, 1, 0}},
		{[]string{"x : | a b c d e f g h", "h :"}, []int{1, 0}},
		{[]string{"x : a a a | a a", "a :"}, []int{1, 0}},
	} {
		mustRules(t, manifest(x.lines...), x.want, true)
	}
}

// Promise 8.1: false where Rules lead round, by Ins, by Order, or by both, in whatever place they stand, be it one alone.
func TestRulesRound(t *testing.T) {
	for _, lines := range [][]string{
		{"a : a"},
		{"a : | a"},
		{"a b : b"},
		{"!a : a"},
		{"a : b", "b : a"},
		{"a : b", "b : | a"},
		{"a : | b", "b : | a"},
		{"z :", "a : b z", "b : c z", "c : | z a"},
		{"a b :  c", "c d : e", "e f : b"},
		{"z :", "y : z", "!x : y x2", "x2 : x"},
	} {
		m := manifest(lines...)
		mustRules(t, m, nil, false)
		mustWant(t, m, nil, nil)
		mustWant(t, m, []string{"z", "a"}, nil)
		m.Default = []string{"z"}
		mustWant(t, m, nil, nil)
	}
}

// Promise 8.1: those that make one of names and all that these need, in Rules' order; of no names those of Default, of no Default all.
func TestWanted(t *testing.T) {
	lines := []string{"top : mid src", "alone : src", "mid by : low | ph", "!ph : low", "low : src", "late : top"}
	for _, x := range []struct {
		names, chosen string
		want          []int
	}{
		{"", "", []int{1, 4, 3, 2, 0, 5}},
		{"", "late", []int{4, 3, 2, 0, 5}},
		{"", "alone", []int{1}},
		{"", "by", []int{4, 3, 2}},
		{"", "low alone", []int{1, 4}},
		{"", "none", nil},
		{"top", "", []int{4, 3, 2, 0}},
		{"top", "alone", []int{4, 3, 2, 0}},
		{"by", "", []int{4, 3, 2}},
		{"mid", "", []int{4, 3, 2}},
		{"mid by mid", "", []int{4, 3, 2}},
		{"ph", "", []int{4, 3}},
		{"low", "top", []int{4}},
		{"late low ph alone", "", []int{1, 4, 3, 2, 0, 5}},
		{"alone ph", "late", []int{1, 4, 3}},
		{"src", "", nil},
		{"src", "late", nil},
		{"none src low", "late", []int{4}},
		{"manifest", "", nil},
	} {
		m := manifest(append(lines, "default "+x.chosen)...)
		mustWant(t, m, strings.Fields(x.names), x.want)
	}
	mustWant(t, manifest(lines...), []string{""}, nil)
	mustWant(t, api.Manifest{}, []string{"a"}, nil)
	mustWant(t, api.Manifest{Default: []string{"a"}}, nil, nil)
}

// Promises 8.1 and 8.3: a manifest that mani never told: a name that several Rules make is made by each of them; names of any text, Rules without Outs, and more of all than a manifest's text may have.
func TestAnybodysManifest(t *testing.T) {
	m := manifest("x : a", "a : p", "a b :", "b : a", "p : ")
	mustRules(t, m, []int{2, 4, 1, 0, 3}, true)
	mustWant(t, m, []string{"a"}, []int{2, 4, 1})
	mustWant(t, m, []string{"b"}, []int{2, 4, 1, 3})
	mustRules(t, manifest("a a : x", "x x :"), []int{1, 0}, true)
	mustRules(t, manifest("a : b", "b :", "b : a"), nil, false)
	mustRules(t, api.Manifest{Rules: []api.Rule{{Outs: []string{"\xff/"}, Ins: []string{""}}, {Outs: []string{""}}, {}, {Ins: []string{"\xff/"}}}}, []int{1, 0, 2, 3}, true)
	mustWant(t, api.Manifest{Rules: []api.Rule{{Outs: []string{"\xff/"}, Ins: []string{""}}, {Outs: []string{""}}, {}}}, []string{"\xff/"}, []int{1, 0})
	var long api.Manifest
	for i := range 50000 {
		long.Rules = append(long.Rules, api.Rule{Outs: []string{strconv.Itoa(i)}, Ins: []string{strconv.Itoa(i + 1)}})
	}
	l, ok := grph.Rules(long)
	if !ok || len(l) != 50000 || l[0] != 49999 || l[49999] != 0 {
		t.Errorf("%v, and %d told of a long chain", ok, len(l))
	}
	if l := grph.Wanted(long, []string{"40000"}); len(l) != 10000 || l[0] != 49999 || l[9999] != 40000 {
		t.Errorf("%d wanted of a long chain", len(l))
	}
}

// Rules 1 and 3: nil and empty lists are the same; the room behind what is handed in is left as it is, and doesn't count.
func TestManifestIsLeft(t *testing.T) {
	room := []string{"a", "b", "x", "y"}
	m := api.Manifest{Rules: []api.Rule{{Outs: room[2:3], Ins: room[:1], Order: []string{"src"}}, {Outs: room[:2], Ins: []string{}, Order: room[:0]}, {Outs: room[3:], Ins: room[2:3]}}, Default: room[:0]}
	mustRules(t, m, []int{1, 0, 2}, true)
	mustWant(t, m, room[:0], []int{1, 0, 2})
	mustWant(t, m, room[2:3], []int{1, 0})
	mustWant(t, m, room[:1], []int{1})
	if strings.Join(room, "") != "abxy" {
		t.Errorf("what was handed in is changed: %v", room)
	}
}

// anyManifest tells one of few names that hang together much, so that many lead round, or by some each Out once and each Rule's needs behind it.
func anyManifest(r *rand.Rand, n int, sound bool) api.Manifest {
	var m api.Manifest
	pick := func(from, most int) []string {
		var l []string
		for range r.IntN(most + 1) {
			l = append(l, "n"+strconv.Itoa(from+r.IntN(max(2*n-from, 1))))
		}
		return l
	}
	for i := range n {
		rule := api.Rule{Outs: []string{"n" + strconv.Itoa(i)}, Ins: pick(0, 2), Order: pick(n/2, 1)}
		if sound {
			rule.Ins, rule.Order = pick(i+1, 3), pick(i+1, 2)
		} else if r.IntN(4) == 0 {
			rule.Outs = pick(0, 4)
		}
		m.Rules = append(m.Rules, rule)
	}
	r.Shuffle(n, func(i, j int) { m.Rules[i], m.Rules[j] = m.Rules[j], m.Rules[i] })
	if r.IntN(2) == 0 {
		m.Default = pick(0, 2)
	}
	return m
}

// Promise 8.1: both calls on many manifests, held to the words in their other form.
func TestManyManifests(t *testing.T) {
	r := rand.New(rand.NewPCG(8, 1))
	round := 0
	for i := range 6000 {
		m := anyManifest(r, r.IntN(9), i%2 == 0)
		mustAgreeIn(t, m, "n"+strconv.Itoa(r.IntN(12)), "n1")
		if _, ok := grph.Rules(m); !ok {
			round++
		}
	}
	if round < 500 || round > 3000 {
		t.Errorf("%d lead round: the manifests are one like the other", round)
	}
	for range 30 {
		mustAgreeIn(t, anyManifest(r, 64, true), "n"+strconv.Itoa(r.IntN(64)))
	}
}

// Promise 8.2 (W4): what all come to: of a manifest's text, whoever reads it, one order comes, where each Rule stands behind all that it needs; what is wanted has all that it needs, in the same order; and Rules is false just where mani tells a cycle.
func TestAllComeToOne(t *testing.T) {
	r := rand.New(rand.NewPCG(8, 2))
	for i := range 2000 {
		m := mayBeRead(anyManifest(r, r.IntN(20), i%4 > 0))
		text := mani.Print(m)
		read, fault := mani.Parse(text)
		order, ok := grph.Rules(m)
		if ok != (fault == api.Fault{}) || !ok && fault.Kind != api.FCycle {
			t.Fatalf("Rules tells %v, mani %v, of\n%s", ok, fault, text)
		}
		if !ok {
			continue
		}
		again, _ := grph.Rules(read)
		if !slices.Equal(order, again) {
			t.Errorf("%v, and %v of what was written and read, of\n%s", order, again, text)
		}
		mustStandBehind(t, m, order, len(m.Rules))
		for _, rule := range m.Rules {
			mustStandBehind(t, m, grph.Wanted(read, rule.Outs), 1)
		}
	}
}

// mayBeRead tells what of m mani reads: no Default, and one Out and one action a Rule, each Out once.
func mayBeRead(m api.Manifest) api.Manifest {
	var read api.Manifest
	var outs []string
	for _, rule := range m.Rules {
		if len(rule.Outs) == 1 && !slices.Contains(outs, rule.Outs[0]) {
			outs = append(outs, rule.Outs[0])
			rule.Acts = [][]api.Do{{{Kind: api.AText, Text: "x"}}}
			read.Rules = append(read.Rules, rule)
		}
	}
	return read
}

// mustStandBehind holds l, of at least so many Rules of m, to having what each of them needs ahead of it, and each once, and to the order of all Rules.
func mustStandBehind(t *testing.T, m api.Manifest, l []int, least int) {
	t.Helper()
	if len(l) < least {
		t.Errorf("%v: too few of\n%s", l, flat(m))
	}
	for at, i := range l {
		if slices.Contains(l[:at], i) {
			t.Errorf("%v: %d stands there again, of\n%s", l, i, flat(m))
		}
		for j := range m.Rules {
			if needs(m, i, j) && !slices.Contains(l[:at], j) {
				t.Errorf("%v: %d is not ahead of %d, of\n%s", l, j, i, flat(m))
			}
		}
	}
	all, _ := grph.Rules(m)
	if !slices.Equal(l, slices.DeleteFunc(all, func(i int) bool { return !slices.Contains(l, i) })) {
		t.Errorf("%v: not in the order of all Rules, of\n%s", l, flat(m))
	}
}

// Promise 8.3: no call panics and each ends, on any Rules, and both are what the words say.
func FuzzRules(f *testing.F) {
	f.Add("a : b\nb : c | d\ndefault a", "b")
	f.Add("a b : a", "")
	f.Add("a : b\nb : a\n!c : a", "c")
	f.Add(": :\n| : |\n !", ":")
	f.Fuzz(func(t *testing.T, text, name string) {
		lines := strings.Split(text, "\n")
		mustAgreeIn(t, manifest(lines[:min(len(lines), 12)]...), name)
	})
}
