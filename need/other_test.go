package need_test

import (
	"bytes"
	"fmt"
	"iter"
	"slices"
	"strings"
	"testing"

	"fettle/acts"
	"fettle/api"
	"fettle/arti"
	"fettle/grph"
	"fettle/mani"
	"fettle/need"
	"fettle/prnt"
	"fettle/simf"
	"fettle/sour"
)

// told is what a Step tells, and what is told behind it.
type told struct {
	what                int
	prints, old, values string
}

// toldOf tells them as texts, in which nil is as an empty list.
func toldOf(what int, prints [][]byte, old []bool, values [][]byte) told {
	return told{what, fmt.Sprintf("%q", prints), fmt.Sprint(old), fmt.Sprintf("%q", values)}
}

// askOf follows the words of promise 16.1 from the first one to the last, and pauses behind each Step.
func askOf(f *simf.FS, r api.Rule, made func(string) bool) iter.Seq[told] {
	return func(yield func(told) bool) {
		last := func(what int) { yield(toldOf(what, nil, nil, nil)) }
		more := func() bool { return yield(toldOf(api.NWork, nil, nil, nil)) }
		if len(r.Acts) == 0 {
			last(api.NDone)
			return
		}
		in := sour.New(r.Ins, made)
	reading:
		for {
			switch in.Step(f) {
			case api.RNone:
				last(api.NNone)
				return
			case api.RBad:
				last(api.NBad)
				return
			case api.RAll:
				break reading
			}
			if !more() {
				return
			}
		}
		values, _ := in.Values()
		var prints [][]byte
		var old []bool
		end := api.NDone
		for i, s := range r.Outs {
			if !more() {
				return
			}
			print := prnt.Print(r.Acts[i], values)
			prints = append(prints, print)
			b, _, e := f.Read(s)
			is := e == api.OK
			if is {
				there, _, ok := arti.Open(b)
				is = ok && string(there) == string(print)
			}
			if old = append(old, !is); !is {
				end = api.NOld
			}
		}
		yield(toldOf(end, prints, old, values))
	}
}

// pair is an Ask beside the same by the words. Both go on the same files, for neither writes.
type pair struct {
	*need.Ask
	words func() told
}

// ask tells an Ask beside its words.
func ask(t *testing.T, f *simf.FS, r api.Rule, made func(string) bool) pair {
	next, stop := iter.Pull(askOf(f, r, made))
	t.Cleanup(stop)
	last := told{}
	return pair{need.New(r, made), func() told {
		if last.what == api.NWork {
			last, _ = next()
		}
		return last
	}}
}

// step does a Step of both, asks that they tell the same and that nothing is written, and tells it.
func (x pair) step(t *testing.T, f *simf.FS) told {
	t.Helper()
	was := all(f)
	what := x.Step(f)
	got := toldOf(what, x.Prints(), x.Old(), x.Values())
	if want := x.words(); got != want {
		t.Fatalf("told %v; the words say %v", got, want)
	}
	if !slices.Equal(all(f), was) {
		t.Fatal("it wrote")
	}
	return got
}

// dice is a row of numbers that look like chance, the same ones for the same seed.
type dice uint64

// roll tells the next one, below n.
func (d *dice) roll(n int) int {
	*d = *d*6364136223846793005 + 1442695040888963407
	return int(uint64(*d)>>33) % n
}

// one tells one of l.
func one[T any](d *dice, l ...T) T {
	return l[d.roll(len(l))]
}

// some tells n of l.
func some(d *dice, n int, l ...string) []string {
	var got []string
	for range n {
		got = append(got, one(d, l...))
	}
	return got
}

// anyRule tells a rule of few names and actions, so that what others ask for is often what it asks for.
func anyRule(t *testing.T, d *dice) api.Rule {
	r := api.Rule{Ins: some(d, d.roll(4), "a", "b", "a.o", "b.o")}
	if d.roll(20) == 0 {
		r.Ins = append(r.Ins, one(d, "", "No name", "none", "none.o"))
	}
	if d.roll(20) == 0 {
		r.Phony = true
		return r
	}
	r.Outs = some(d, d.roll(4), "x", "y", "z", "a.o")
	if d.roll(20) == 0 {
		r.Outs = append(r.Outs, one(d, "", "No name"))
	}
	for range max(len(r.Outs), 1) {
		r.Acts = append(r.Acts, actOf(t, one(d, "all", "all ; rev", "in 0")))
	}
	return r
}

// disturb does what others may do: edits, and what Asks want, moved to where they want it, or somewhere else.
func disturb(d *dice, f *simf.FS, x pair) {
	s := one(d, "a", "b", "a.o", "b.o")
	switch n := d.roll(40); {
	case n < 10:
		f.Put(s, bytesOf(s, fmt.Sprint("value ", d.roll(3))))
	case n < 33:
		if l := x.Prints(); len(l) > 0 {
			f.Put(one(d, "x", "y", "z", "a.o"), arti.Make(one(d, l...), []byte("moved")))
		}
	case n == 33:
		f.Drop(one(d, "x", "y", "z", s), nil)
	case n == 34:
		f.Append(one(d, "x", "y", s), []byte("x"), nil)
	case n == 35:
		f.Put(one(d, "x", s), make([]byte, 256+d.roll(2)))
	case n == 36:
		f.Move(one(d, "x", "y", s), one(d, "y", "z", "a.o", "b"), nil)
	default:
		b, _, _ := f.Read(s)
		f.Put(s, b)
	}
}

// Promises 16.1 and 16.3: whatever happens, each Step tells what its words say.
func TestAny(t *testing.T) {
	ends := map[int]int{}
	mixed := 0
	for seed := range 400 {
		f, d := under("a", "b", "a.o", "b.o"), dice(seed)
		rules := []api.Rule{anyRule(t, &d), anyRule(t, &d), anyRule(t, &d)}
		running := []pair{ask(t, f, rules[0], made)}
		for range 400 {
			i := d.roll(len(running))
			switch n := d.roll(20); {
			case n == 0:
				running = append(running, ask(t, f, one(&d, rules...), made))
			case n < 17:
				x := running[i].step(t, f)
				if x.what == api.NWork {
					break
				}
				ends[x.what]++
				if strings.Contains(x.old, "true") && strings.Contains(x.old, "false") {
					mixed++
				}
				if d.roll(3) > 0 {
					disturb(&d, f, running[i])
					running[i] = ask(t, f, one(&d, rules...), made)
				}
			default:
				disturb(&d, f, running[i])
			}
		}
	}
	if ends[api.NDone] < 5000 || ends[api.NOld] < 5000 || ends[api.NNone] < 2000 || ends[api.NBad] < 1000 || mixed < 1000 {
		t.Errorf("too little happened: ends %v, %d mixed", ends, mixed)
	}
}

// tree is files under a manifest.
type tree struct {
	*simf.FS
	m     api.Manifest
	order []int
	moved int
}

// grow tells a tree of that manifest, with those sources.
func grow(t *testing.T, text string, sources ...string) *tree {
	t.Helper()
	m, fault := mani.Parse([]byte(text))
	order, ok := grph.Rules(m)
	if fault.Kind != 0 || !ok {
		t.Fatal(fault, ok, text)
	}
	x := &tree{FS: simf.New(wide), m: m, order: order}
	for _, s := range sources {
		x.Put(s, []byte("value of "+s))
	}
	return x
}

// made tells whether s is made in the tree.
func (x *tree) made(s string) bool {
	return slices.ContainsFunc(x.m.Rules, func(r api.Rule) bool { return !r.Phony && slices.Contains(r.Outs, s) })
}

// end does all Steps of an Ask, and tells the last one's.
func (x *tree) end(a *need.Ask) int {
	for a.Step(x.FS) == api.NWork {
	}
	return a.Step(x.FS)
}

// put moves to their places those outputs of r that a told to be old and of which a value comes.
func (x *tree) put(r api.Rule, a *need.Ask) {
	prints := a.Prints()
	for i, old := range a.Old() {
		value, ok := prnt.Value(prints[i])
		if old && ok {
			x.Put("tmp/1.1.10", arti.Make(prints[i], value))
			x.Move("tmp/1.1.10", r.Outs[i], nil)
			x.moved++
		}
	}
}

// pass asks for each rule, in order, and moves what is old; it tells what was moved.
func (x *tree) pass() []string {
	var moved []string
	for _, i := range x.order {
		r, n := x.m.Rules[i], x.moved
		a := need.New(r, x.made)
		x.end(a)
		if x.put(r, a); x.moved > n {
			moved = append(moved, r.Outs[0])
		}
	}
	return moved
}

// works tells what is told for each rule, in the manifest's order.
func (x *tree) works() []int {
	var l []int
	for _, r := range x.m.Rules {
		l = append(l, x.end(need.New(r, x.made)))
	}
	return l
}

// alone tells what comes of the tree's sources alone, by Name; where an action is false, or an input misses, nothing.
func (x *tree) alone() map[string][]byte {
	l := map[string][]byte{}
	value := func(s string) ([]byte, bool) {
		if x.made(s) {
			b, ok := l[s]
			return b, ok
		}
		b, _, e := x.Read(s)
		return b, e == api.OK && len(b) <= 256
	}
	for _, i := range x.order {
		r := x.m.Rules[i]
		var in [][]byte
		for _, s := range r.Ins {
			if b, ok := value(s); ok {
				in = append(in, b)
			}
		}
		for j, do := range r.Acts {
			if b, ok := acts.Run(do, in); ok && len(in) == len(r.Ins) {
				l[r.Outs[j]] = b
			}
		}
	}
	return l
}

// comes asks that each target is what comes of the sources alone.
func (x *tree) comes(t *testing.T) {
	t.Helper()
	for s, want := range x.alone() {
		b, _, _ := x.Read(s)
		if _, value, ok := arti.Open(b); !ok || !bytes.Equal(value, want) {
			t.Fatalf("%s is %q; alone it were %q", s, value, want)
		}
	}
}

const (
	done, old, none, bad = api.NDone, api.NOld, api.NNone, api.NBad
	// text is a manifest with a row of rules, a wide one, one of nothing, a phony one, and one that stands beside all.
	text = "rule x : a b = all ; take 10\nrule y y2 : x c = all ; rev , in 0 ; upper\nrule z : y a = all ; join \"-\"\nrule n : = text \"none\"\nphony all : z n\nrule beside : d | x = all\n"
)

// Promise 16.2, W5: of a tree that is as it should be each rule is told NDone, and nothing is moved, however often it is asked.
func TestW5Left(t *testing.T) {
	x := grow(t, text, "a", "b", "c", "d")
	if l := x.works(); !slices.Equal(l, []int{old, none, none, old, done, old}) {
		t.Fatal(l)
	}
	if moved := x.pass(); len(moved) != 5 || x.moved != 6 {
		t.Fatal(moved, x.moved)
	}
	x.comes(t)
	was := all(x.FS)
	for range 5 {
		if l := x.works(); !slices.Equal(l, []int{done, done, done, done, done, done}) {
			t.Fatal(l)
		}
		if moved := x.pass(); len(moved) != 0 {
			t.Fatal(moved)
		}
	}
	if !slices.Equal(all(x.FS), was) {
		t.Error("something was written")
	}
}

// Promise 16.2, W5: what was written anew but is the same, and what is no input, makes nothing old: an Order's, others' files, the rule's own place.
func TestW5LeftBehindWriting(t *testing.T) {
	x := grow(t, text, "a", "b", "c", "d")
	x.pass()
	for _, s := range x.List("") {
		b, _, _ := x.Read(s)
		x.Put(s, b)
		x.Drop(s, nil)
		x.Make(s, b)
		if l := x.works(); !slices.Equal(l, []int{done, done, done, done, done, done}) {
			t.Fatal(s, l)
		}
	}
	x.Put("other", []byte("x"))
	x.Put("manifest", []byte("x"))
	x.Put("claim/x", []byte("x"))
	x.Put("tmp/1.1.10", []byte("x"))
	x.Drop("x", nil)
	if l := x.works(); !slices.Equal(l, []int{old, none, done, done, done, done}) {
		t.Fatal(l)
	}
	if moved := x.pass(); !slices.Equal(moved, []string{"x"}) {
		t.Fatal(moved)
	}
	m, _ := mani.Parse([]byte("rule beside : d | q = all\nrule z : y a = all ; join \"-\"\nrule y2 y : x c = in 0 ; upper , all ; rev\nrule x : a b = all ; take 10\n"))
	x.m = m
	if l := x.works(); !slices.Equal(l, []int{done, done, done, done}) {
		t.Fatal(l)
	}
}

// Promise 16.2: an edit makes old what is made of it, and no more; what is made of that in turn is old only if its value became another one.
func TestW5EditsGoAsFarAsTheyReach(t *testing.T) {
	for edited, rows := range map[string][]struct {
		value string
		moved []string
	}{
		"a": {{"value of A", []string{"x", "y", "z"}}, {"value of A and more", []string{"x", "z"}}, {"", []string{"x", "y", "z"}}},
		"b": {{"whatever", []string{"x"}}, {"", []string{"x"}}},
		"c": {{"C", []string{"y", "z"}}},
		"d": {{"D", []string{"beside"}}},
	} {
		x := grow(t, text, "a", "b", "c", "d")
		x.pass()
		for _, row := range rows {
			x.Put(edited, []byte(row.value))
			if moved := x.pass(); !slices.Equal(moved, row.moved) {
				t.Fatalf("%s is %q: moved %v", edited, row.value, moved)
			}
			if moved := x.pass(); len(moved) != 0 {
				t.Fatal(moved)
			}
			x.comes(t)
		}
	}
}

// Promise 16.2: an action that became another one makes old what it makes, and nothing else of its rule.
func TestW5Actions(t *testing.T) {
	x := grow(t, text, "a", "b", "c", "d")
	x.pass()
	m, _ := mani.Parse([]byte(strings.Replace(text, "in 0 ; upper", "in 0 ; lower", 1)))
	x.m = m
	a := need.New(x.m.Rules[1], x.made)
	if what := x.end(a); what != old || !slices.Equal(a.Old(), []bool{false, true}) {
		t.Error(what, a.Old())
	}
	if moved := x.pass(); !slices.Equal(moved, []string{"y"}) {
		t.Error(moved)
	}
	x.comes(t)
}

// Promise 16.2, W5: whatever bytes an output is of, it is told old, and is made as it should be; as an input it is NBad till then.
func TestW5AnyBytes(t *testing.T) {
	x := grow(t, text, "a", "b", "c", "d")
	x.pass()
	whole, _, _ := x.Read("x")
	was, _, _ := x.Read("z")
	for n := range len(whole) {
		for _, b := range [][]byte{whole[:n], slices.Insert(slices.Clone(whole), n, 0), slices.Concat(whole[:n], []byte{whole[n] ^ 1}, whole[n+1:])} {
			x.Put("x", b)
			if l := x.works(); !slices.Equal(l, []int{old, bad, done, done, done, done}) {
				t.Fatal(l, n)
			}
			if moved := x.pass(); !slices.Equal(moved, []string{"x"}) {
				t.Fatal(moved, n)
			}
		}
	}
	x.comes(t)
	if b, _, _ := x.Read("z"); !bytes.Equal(b, was) {
		t.Error("another z")
	}
}

// Promise 16.2: an output of whose action no value comes is old as often as it is asked for, and what needs it misses it; what does not is left.
func TestFails(t *testing.T) {
	x := grow(t, "rule x x2 : a = all ; fail , all\nrule y : x = all\nrule z : x2 = all\n", "a")
	if moved := x.pass(); !slices.Equal(moved, []string{"x", "z"}) {
		t.Fatal(moved)
	}
	for range 3 {
		if l := x.works(); !slices.Equal(l, []int{old, none, done}) {
			t.Fatal(l)
		}
		if moved := x.pass(); len(moved) != 0 {
			t.Fatal(moved)
		}
	}
	x.comes(t)
}

// anyText tells a manifest of n rules, each of which needs sources and what rules ahead make; its lines are turned round.
func anyText(d *dice, n int) string {
	names := []string{"a", "b", "c"}
	var lines []string
	for i := range n {
		ins := strings.Join(some(d, d.roll(4), names...), " ")
		if d.roll(10) == 0 {
			lines = append(lines, fmt.Sprintf("phony p%d : %s", i, ins))
			continue
		}
		outs := []string{fmt.Sprintf("r%d", i), fmt.Sprintf("s%d", i)}[:1+d.roll(2)]
		do := some(d, len(outs), "all ; take 40", "all ; take 40 ; rev", "all ; drop 3 ; take 40 ; upper", "all ; take 2", "text \"t\" ; twice")
		lines = append(lines, fmt.Sprintf("rule %s : %s = %s", strings.Join(outs, " "), ins, strings.Join(do, " , ")))
		names = append(names, outs...)
	}
	slices.Reverse(lines)
	return strings.Join(lines, "\n")
}

// Promise 16.2, W4 and W5: hands that ask by steps, and move what they were told is old, while sources are edited and targets get lost, come, when nothing disturbs any more, to what one alone would have made, by as many passes as there are rules at most; then nothing is moved any more.
func TestW4(t *testing.T) {
	edited, late := 0, 0
	for seed := range 300 {
		d := dice(seed)
		x := grow(t, anyText(&d, 1+d.roll(10)), "a", "b", "c")
		type hand struct {
			r api.Rule
			a *need.Ask
		}
		hands := make([]hand, 3)
		for range 600 {
			h := &hands[d.roll(len(hands))]
			if h.a == nil {
				h.r = one(&d, x.m.Rules...)
				h.a = need.New(h.r, x.made)
			}
			switch n := d.roll(30); {
			case n == 0:
				x.Put(one(&d, "a", "b", "c"), []byte(fmt.Sprint("edit ", d.roll(4))))
				edited++
			case n == 1:
				r := one(&d, x.m.Rules...)
				x.Drop(one(&d, r.Outs...), nil)
			case n == 2:
				r := one(&d, x.m.Rules...)
				x.Append(one(&d, r.Outs...), []byte("x"), nil)
			default:
				if h.a.Step(x.FS) != api.NWork {
					x.put(h.r, h.a)
					h.a = nil
				}
			}
		}
		n := 0
		for len(x.pass()) > 0 {
			n++
		}
		if n > 0 {
			late++
		}
		if n > len(x.m.Rules) {
			t.Fatalf("%d passes for %d rules", n, len(x.m.Rules))
		}
		x.comes(t)
		for i, what := range x.works() {
			if r := x.m.Rules[i]; what != api.NDone {
				t.Fatal(what, r)
			}
		}
	}
	if edited < 4000 || late < 100 {
		t.Errorf("too little happened: %d edits, %d came later", edited, late)
	}
}

// orders tells all orders in which a hand of so many Steps and edits, one behind the other, may go: of each edit, behind which Step.
func orders(steps, edits int) iter.Seq[[]int] {
	return func(yield func([]int) bool) {
		way := make([]int, edits)
		for {
			if slices.IsSorted(way) && !yield(way) {
				return
			}
			i := 0
			for i < edits && way[i] == steps {
				way[i] = 0
				i++
			}
			if i == edits {
				return
			}
			way[i]++
		}
	}
}

// Promise 16.2, W2: in all orders of an Ask's Steps and edits, the prints are of inputs that were all so at one moment; and who was told NDone had all outputs of one moment's inputs.
func TestOneMomentInAllOrders(t *testing.T) {
	r := ruleOf(t, []string{"o", "p"}, "a", "b.o")
	row := []file{{name: "a", bytes: "1"}, {name: "b.o", bytes: "1"}, {name: "a", bytes: "2"}, {name: "b.o", bytes: "value of b.o"}, {name: "a", bytes: "1"}}
	ends := map[int]int{}
	for way := range orders(9, len(row)) {
		f := under("a", "b.o")
		values := map[string]string{"a": "value of a", "b.o": "value of b.o"}
		now := func() [][]byte { return [][]byte{[]byte(values["a"]), []byte(values["b.o"])} }
		were := [][][]byte{now()}
		for i, s := range r.Outs {
			f.Put(s, arti.Make(printsOf(r, []byte("2"), []byte("1"))[i], nil))
		}
		a := need.New(r, made)
		n := 0
		edit := func(behind int) {
			for n < len(row) && way[n] <= behind {
				x := row[n]
				f.Put(x.name, bytesOf(x.name, x.bytes))
				values[x.name] = x.bytes
				were = append(were, now())
				n++
			}
		}
		what := api.NWork
		for i := 0; what == api.NWork; i++ {
			edit(i)
			what = a.Step(f)
		}
		ends[what]++
		so := func(l [][]byte) bool { return slices.EqualFunc(l, a.Values(), bytes.Equal) }
		if !slices.ContainsFunc(were, so) || !slices.EqualFunc(a.Prints(), printsOf(r, a.Values()...), bytes.Equal) {
			t.Fatalf("%v: of %q, which were at no moment", way, a.Values())
		}
		if is := string(a.Values()[0]) == "2" && string(a.Values()[1]) == "1"; is != (what == api.NDone) {
			t.Fatalf("%v: %d of %q", way, what, a.Values())
		}
	}
	if ends[api.NDone] < 20 || ends[api.NOld] < 1000 {
		t.Errorf("too little happened: %v", ends)
	}
}

// Promises 16.1 to 16.3: no call panics, and each Ask tells what its words say, on any bytes, of any names and actions, with an edit at any Step.
func FuzzAll(f *testing.F) {
	f.Add("a b.o", "o p", "a", []byte("one"), []byte("two"), 3, 0, 3, "")
	f.Add("a b.o a", "o", "o", arti.Make(nil, []byte("one")), arti.Make(nil, nil), 6, 1, 1, "-")
	f.Add("a", "o p o", "o", []byte("one"), arti.Make(prnt.Print([]api.Do{{Kind: api.AAll}}, [][]byte{[]byte("one")}), []byte("one")), 1, 2, api.AAll, "")
	f.Add("b.o No b.o", "", "b.o", []byte("one"), []byte("two"), 0, 2, 99, "\xff")
	f.Add("", "a/b/c", "a", []byte(nil), make([]byte, 257), 0, 3, -1, "")
	f.Fuzz(func(t *testing.T, inText, outText, edited string, b, later []byte, at, how, kind int, said string) {
		files := simf.New(wide)
		r := api.Rule{Ins: strings.Split(inText, " "), Outs: strings.Split(outText, " ")}
		for _, s := range r.Ins {
			files.Put(s, b)
		}
		for range r.Outs {
			r.Acts = append(r.Acts, []api.Do{{Kind: kind, Text: said}})
		}
		if how&8 == 8 {
			r.Acts = nil
		}
		isMade := func(s string) bool { return how&1 == 0 && made(s) || how&4 == 4 }
		x := ask(t, files, r, isMade)
		var end told
		for i := range 4*len(r.Ins) + len(r.Outs) + 1 {
			if i == at {
				if how&2 == 0 {
					files.Put(edited, later)
				} else {
					files.Drop(edited, nil)
				}
			}
			end = x.step(t, files)
		}
		if end.what == api.NWork || x.step(t, files) != end {
			t.Fatal("no end")
		}
	})
}
