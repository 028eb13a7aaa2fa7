package need_test

import (
	"bytes"
	"fmt"
	"slices"
	"strings"
	"testing"

	"fettle/acts"
	"fettle/api"
	"fettle/arti"
	"fettle/fram"
	"fettle/line"
	"fettle/need"
	"fettle/prnt"
	"fettle/simf"
)

// wide is room enough.
const wide = 1 << 20

// made tells whether s is made: those that end in `.o` are.
func made(s string) bool { return strings.HasSuffix(s, ".o") }

// actOf tells the action that s says.
func actOf(t testing.TB, s string) []api.Do {
	t.Helper()
	lines, _ := line.Split([]byte(s))
	do, ok := acts.Parse(lines[0])
	if !ok {
		t.Fatal(s)
	}
	return do
}

// bytesOf tells what the file s is of, to have that value.
func bytesOf(s, value string) []byte {
	if made(s) {
		return arti.Make([]byte("print of "+value), []byte(value))
	}
	return []byte(value)
}

// under tells files of those names, each with a value of its own.
func under(names ...string) *simf.FS {
	f := simf.New(wide)
	for _, s := range names {
		f.Put(s, bytesOf(s, "value of "+s))
	}
	return f
}

// valuesOf tells the values that under gives.
func valuesOf(names ...string) [][]byte {
	var l [][]byte
	for _, s := range names {
		l = append(l, []byte("value of "+s))
	}
	return l
}

// ruleOf tells the rule that makes each of outs by an action of its own.
func ruleOf(t testing.TB, outs []string, ins ...string) api.Rule {
	r := api.Rule{Outs: outs, Ins: ins, Order: []string{"none"}}
	for i := range outs {
		r.Acts = append(r.Acts, actOf(t, fmt.Sprintf("text %q ; take %d", "of "+outs[i], i)))
	}
	return r
}

// printsOf tells what prints the outputs of r are to have.
func printsOf(r api.Rule, in ...[]byte) [][]byte {
	var l [][]byte
	for _, do := range r.Acts {
		l = append(l, prnt.Print(do, in))
	}
	return l
}

// file is a file as it stands.
type file struct {
	name, bytes string
	stamp       int
}

// all tells all files of the folders that these tests know.
func all(f *simf.FS) []file {
	var l []file
	for _, dir := range []string{"", "lock", "tmp", "claim"} {
		for _, s := range f.List(dir) {
			b, stamp, _ := f.Read(s)
			l = append(l, file{s, string(b), stamp})
		}
	}
	return l
}

// nothing asks that a has nothing to tell.
func nothing(t *testing.T, a *need.Ask) {
	t.Helper()
	if len(a.Prints())+len(a.Old())+len(a.Values()) != 0 {
		t.Fatalf("told %q, %v, %q", a.Prints(), a.Old(), a.Values())
	}
}

// steps does a's Steps, each of which is to tell the next of want, and to write nothing. Only behind one that tells NDone or NOld there is something told.
func steps(t *testing.T, a *need.Ask, f *simf.FS, want ...int) {
	t.Helper()
	for i, w := range want {
		was := all(f)
		if got := a.Step(f); got != w {
			t.Fatalf("Step %d tells %d, not %d", i+1, got, w)
		}
		if !slices.Equal(all(f), was) {
			t.Fatalf("Step %d wrote", i+1)
		}
		if w != api.NDone && w != api.NOld {
			nothing(t, a)
		}
	}
}

// work tells n times NWork, then end.
func work(n int, end ...int) []int {
	return append(make([]int, n), end...)
}

// calls tells how many Steps an Ask of so many inputs and outputs has where nothing disturbs it: one for the inputs where there are none, else two for each.
func calls(ins, outs int) int {
	return max(2*ins, 1) + outs
}

// holds asks that a tells those prints, those old, and those values.
func holds(t *testing.T, a *need.Ask, prints [][]byte, old []bool, values [][]byte) {
	t.Helper()
	if got := a.Prints(); !slices.EqualFunc(got, prints, bytes.Equal) {
		t.Errorf("prints %q, not %q", got, prints)
	}
	if got := a.Old(); !slices.Equal(got, old) {
		t.Errorf("old %v, not %v", got, old)
	}
	if got := a.Values(); !slices.EqualFunc(got, values, bytes.Equal) {
		t.Errorf("values %q, not %q", got, values)
	}
}

// stays asks that a tells want again, and the same beside it, whatever becomes of the files. There are none for it: a call would panic.
func stays(t *testing.T, a *need.Ask, want int) {
	t.Helper()
	prints, old, values := a.Prints(), a.Old(), a.Values()
	for range 3 {
		if got := a.Step(nil); got != want {
			t.Fatalf("%d behind the end, not %d", got, want)
		}
		holds(t, a, prints, old, values)
	}
}

// Promise 16.1 and the chapter's example: a new one has nothing to tell.
func TestNew(t *testing.T) {
	for _, r := range []api.Rule{{}, {Outs: []string{"o"}, Phony: true}, ruleOf(t, nil, "a"), ruleOf(t, []string{"o"}), ruleOf(t, []string{"o", "p"}, "a", "b.o"), ruleOf(t, []string{"No name"}, "")} {
		a := need.New(r, made)
		if len(a.Old()) != 0 {
			t.Error(a.Old())
		}
		nothing(t, a)
	}
}

// Promise 16.1: the inputs are read as sour does, then each output, by a Step; NOld is told behind the last where one is old at least, NDone where none is; and which ones are, Old tells.
func TestAsks(t *testing.T) {
	outs := []string{"x.o", "a", "c.o", "z"}
	ins := []string{"c", "a.o", "b", "lock/log", "tmp/1.1.1", "b.o", "q", "claim/q"}
	for n := range len(ins) + 1 {
		for m := 1; m <= len(outs); m++ {
			for old := range 1 << m {
				f := under(ins...)
				r := ruleOf(t, outs[:m], ins[:n]...)
				prints := printsOf(r, valuesOf(ins[:n]...)...)
				want, end := make([]bool, m), api.NDone
				for i, s := range outs[:m] {
					f.Put(s, arti.Make(prints[i], []byte("whatever")))
					if old>>i&1 == 1 {
						want[i], end = true, api.NOld
						f.Put(s, arti.Make([]byte("another print"), []byte("whatever")))
					}
				}
				a := need.New(r, made)
				steps(t, a, f, work(calls(n, m)-1, end)...)
				holds(t, a, prints, want, valuesOf(ins[:n]...))
				if stays(t, a, end); t.Failed() {
					t.Fatal(n, m, old)
				}
			}
		}
	}
}

// Promise 16.1: an output is old where it is not there, arti.Open refuses it, or its print is another than that of its action and the inputs, in whatever; of what value the artifact is nobody asks.
func TestOld(t *testing.T) {
	ins := []string{"a", "b.o"}
	in := valuesOf(ins...)
	do := actOf(t, `all ; take 7 ; join "-"`)
	right := prnt.Print(do, in)
	whole := arti.Make(right, []byte("v-a-l-u-e- -o"))
	torn := slices.Clone(whole)
	torn[20] ^= 1
	of := func(l []api.Do, in ...[]byte) []byte { return arti.Make(prnt.Print(l, in), []byte("v-a-l-u-e- -o")) }
	for what, x := range map[string]struct {
		b   []byte
		old bool
	}{
		"right":                 {whole, false},
		"right, another value":  {arti.Make(right, []byte("another value")), false},
		"right, no value":       {arti.Make(right, nil), false},
		"right, a long value":   {arti.Make(right, make([]byte, 256)), false},
		"right, too long":       {arti.Make(right, make([]byte, 257)), true},
		"nothing":               {nil, true},
		"a text":                {[]byte("no artifact"), true},
		"its value alone":       {[]byte("v-a-l-u-e- -o"), true},
		"its print alone":       {right, true},
		"cut off":               {whole[:len(whole)-1], true},
		"a byte more":           {append(slices.Clone(whole), 'x'), true},
		"two":                   {append(slices.Clone(whole), whole...), true},
		"a changed bit":         {torn, true},
		"a frame of something":  {fram.Put(nil, []byte("something")), true},
		"of no print":           {arti.Make(nil, []byte("v-a-l-u-e- -o")), true},
		"a print cut off":       {arti.Make(right[:len(right)-1], nil), true},
		"a longer print":        {arti.Make(append(slices.Clone(right), 0), nil), true},
		"a very long print":     {arti.Make(append(slices.Clone(right), make([]byte, 4000)...), nil), true},
		"another action":        {of(do[:2], in...), true},
		"an action of the same": {of(append(slices.Clone(do), api.Do{Kind: api.ATake, N: 999}), in...), true},
		"another text in it":    {of(actOf(t, `all ; take 7 ; join "+"`), in...), true},
		"another number in it":  {of(actOf(t, `all ; take 8 ; join "-"`), in...), true},
		"no action":             {of(nil, in...), true},
		"another input":         {of(do, in[0], []byte("value of B.o")), true},
		"another unused byte":   {of(do, in[0], []byte("value of b.o ")), true},
		"inputs turned round":   {of(do, in[1], in[0]), true},
		"an input less":         {of(do, in[0]), true},
		"an input more":         {of(do, in[0], in[1], nil), true},
		"the artifact as input": {of(do, in[0], bytesOf("b.o", "value of b.o")), true},
		"no input":              {of(do), true},
	} {
		r := api.Rule{Outs: []string{"o"}, Ins: ins, Acts: [][]api.Do{do}}
		f := under(ins...)
		f.Put("o", x.b)
		a := need.New(r, made)
		end := map[bool]int{false: api.NDone, true: api.NOld}[x.old]
		steps(t, a, f, work(4, end)...)
		holds(t, a, [][]byte{right}, []bool{x.old}, in)
		if stays(t, a, end); t.Failed() {
			t.Fatal(what)
		}
	}
}

// Promise 16.1: an output that is not there is old, as is one whose name is no file's name: nothing can be there.
func TestNotThere(t *testing.T) {
	for _, s := range []string{"n", "n.o", "", "No name", "lock/", "/n", "a/b/c", "\xff", strings.Repeat("x", 17), strings.Repeat("x", 1000)} {
		for at := range 3 {
			f := under("a")
			r := ruleOf(t, slices.Insert([]string{"o", "p"}, at, "n"), "a")
			r.Outs[at] = s
			prints := printsOf(r, valuesOf("a")...)
			want := make([]bool, 3)
			want[at] = true
			for i, out := range r.Outs {
				if i != at {
					f.Put(out, arti.Make(prints[i], nil))
				}
			}
			a := need.New(r, made)
			steps(t, a, f, work(4, api.NOld)...)
			holds(t, a, prints, want, valuesOf("a"))
			stays(t, a, api.NOld)
		}
	}
}

// Promise 16.1: each output has its own action, though the other's print lies there.
func TestEachItsOwn(t *testing.T) {
	f := under("a")
	r := ruleOf(t, []string{"o", "p"}, "a")
	prints := printsOf(r, valuesOf("a")...)
	f.Put("o", arti.Make(prints[1], nil))
	f.Put("p", arti.Make(prints[0], nil))
	a := need.New(r, made)
	steps(t, a, f, work(3, api.NOld)...)
	holds(t, a, prints, []bool{true, true}, valuesOf("a"))
	f.Put("o", arti.Make(prints[0], nil))
	a = need.New(r, made)
	steps(t, a, f, work(3, api.NOld)...)
	holds(t, a, prints, []bool{false, true}, valuesOf("a"))
	r.Acts[1] = r.Acts[0]
	a = need.New(r, made)
	steps(t, a, f, work(3, api.NDone)...)
	holds(t, a, [][]byte{prints[0], prints[0]}, []bool{false, false}, valuesOf("a"))
}

// Promise 16.1: a rule without actions is NDone at the first Step, and not ahead of it, without a call: neither its inputs nor its outputs are looked for.
func TestPhony(t *testing.T) {
	for _, r := range []api.Rule{
		{},
		{Phony: true},
		{Outs: []string{"o"}, Phony: true},
		{Outs: []string{"o"}, Ins: []string{"none", "bad.o"}, Phony: true},
		{Outs: []string{"o"}, Ins: []string{"none"}, Phony: true, Acts: [][]api.Do{}},
		{Outs: []string{"o", "p"}, Ins: []string{"none"}, Order: []string{"none"}},
	} {
		a := need.New(r, made)
		nothing(t, a)
		if got := a.Step(nil); got != api.NDone {
			t.Fatal(got)
		}
		nothing(t, a)
		stays(t, a, api.NDone)
	}
}

// Promise 16.1: a rule with actions is asked for like any other, whatever Phony says.
func TestPhonyWithActions(t *testing.T) {
	f := under("a")
	r := ruleOf(t, []string{"o"}, "a")
	r.Phony = true
	a := need.New(r, made)
	steps(t, a, f, work(2, api.NOld)...)
	holds(t, a, printsOf(r, valuesOf("a")...), []bool{true}, valuesOf("a"))
}

// Promise 16.1: of no inputs the first Step does no call, then each output is read.
func TestNoInputs(t *testing.T) {
	for _, ins := range [][]string{nil, {}} {
		r := ruleOf(t, []string{"o", "p"}, ins...)
		prints := printsOf(r)
		a := need.New(r, made)
		if got := a.Step(nil); got != api.NWork {
			t.Fatal(got)
		}
		nothing(t, a)
		f := simf.New(wide)
		f.Put("p", arti.Make(prints[1], nil))
		steps(t, a, f, api.NWork, api.NOld)
		holds(t, a, prints, []bool{true, false}, nil)
		f.Put("o", arti.Make(prints[0], nil))
		a = need.New(r, made)
		steps(t, a, f, work(2, api.NDone)...)
		holds(t, a, prints, []bool{false, false}, nil)
		stays(t, a, api.NDone)
	}
}

// Promise 16.1: of no outputs none is old: it is told behind the inputs, which are read all the same.
func TestNoOutputs(t *testing.T) {
	f := under("a", "b.o")
	r := ruleOf(t, nil, "a", "b.o")
	r.Acts = [][]api.Do{actOf(t, "all")}
	a := need.New(r, made)
	steps(t, a, f, work(3, api.NDone)...)
	holds(t, a, nil, nil, valuesOf("a", "b.o"))
	stays(t, a, api.NDone)
	r.Ins = nil
	a = need.New(r, made)
	steps(t, a, f, api.NDone)
	holds(t, a, nil, nil, nil)
	r.Ins = []string{"a", "none"}
	a = need.New(r, made)
	steps(t, a, f, api.NWork, api.NNone)
	stays(t, a, api.NNone)
}

// Promise 16.1: an input that misses ends it, at its Read, with NNone; nothing is told of outputs.
func TestNone(t *testing.T) {
	ins := []string{"a", "b.o", "c"}
	for _, none := range []string{"n", "n.o", "o", "", "No name", "lock/", "a/b/c", "\xff", strings.Repeat("x", 17)} {
		for at := range len(ins) + 1 {
			f := under("a", "b.o", "c")
			f.Put("p", []byte("there"))
			f.Put("bad.o", []byte("no artifact"))
			r := ruleOf(t, []string{"p"}, append(slices.Insert(slices.Clone(ins), at, none), "bad.o")...)
			a := need.New(r, made)
			steps(t, a, f, work(at, api.NNone)...)
			for _, s := range []string{"n", "n.o", "o"} {
				f.Put(s, bytesOf(s, "later"))
			}
			steps(t, a, f, api.NNone)
			stays(t, a, api.NNone)
		}
	}
}

// Promise 16.1: an input that is made and is no artifact, or whose value is too long, ends it, at its Read, with NBad.
func TestBad(t *testing.T) {
	ins := []string{"a", "b.o", "c"}
	for what, x := range map[string]file{
		"a text":         {name: "x.o", bytes: "no artifact"},
		"nothing":        {name: "x.o"},
		"a long":         {name: "x", bytes: strings.Repeat("x", 257)},
		"a long in one":  {name: "x.o", bytes: string(arti.Make(nil, make([]byte, 257)))},
		"of a long made": {name: "x.o", bytes: string(arti.Make(make([]byte, 4001), nil))},
	} {
		for at := range len(ins) + 1 {
			f := under(ins...)
			f.Put(x.name, []byte(x.bytes))
			r := ruleOf(t, []string{"o"}, append(slices.Insert(slices.Clone(ins), at, x.name), "none")...)
			a := need.New(r, made)
			steps(t, a, f, work(at, api.NBad)...)
			f.Put("x", []byte("later"))
			f.Put("x.o", bytesOf("x.o", "later"))
			steps(t, a, f, api.NBad)
			if stays(t, a, api.NBad); t.Failed() {
				t.Fatal(what)
			}
		}
	}
}

// Promise 16.1: what an input's file is of, made tells: the value of its artifact, or the bytes as they are, though they look like an artifact.
func TestMade(t *testing.T) {
	f := simf.New(wide)
	b := bytesOf("x.o", "value")
	f.Put("a", b)
	f.Put("b.o", b)
	r := ruleOf(t, []string{"o"}, "b.o", "a", "b.o")
	a := need.New(r, made)
	steps(t, a, f, work(6, api.NOld)...)
	in := [][]byte{[]byte("value"), b, []byte("value")}
	holds(t, a, printsOf(r, in...), []bool{true}, in)
	for is, v := range map[bool][]byte{false: b, true: []byte("value")} {
		a = need.New(r, func(string) bool { return is })
		steps(t, a, f, work(6, api.NOld)...)
		holds(t, a, printsOf(r, v, v, v), []bool{true}, [][]byte{v, v, v})
	}
}

// Promise 16.1: an output is read as an artifact, whatever made says of it.
func TestMadeOfOutputs(t *testing.T) {
	f := under("a")
	r := ruleOf(t, []string{"o"}, "a")
	f.Put("o", arti.Make(printsOf(r, valuesOf("a")...)[0], nil))
	a := need.New(r, func(s string) bool {
		if s != "a" {
			t.Error("asked of", s)
		}
		return false
	})
	steps(t, a, f, work(2, api.NDone)...)
}

// edits are what may become of a file between two Steps, each of which gives it another stamp.
var edits = map[string]func(f *simf.FS, s string){
	"others": func(f *simf.FS, s string) { f.Put(s, bytesOf(s, "edited")) },
	"same":   func(f *simf.FS, s string) { b, _, _ := f.Read(s); f.Put(s, b) },
	"gone":   func(f *simf.FS, s string) { f.Drop(s, nil) },
	"longer": func(f *simf.FS, s string) { f.Append(s, []byte("x"), nil) },
}

// Promise 16.1: an edit of an input ahead of its asking is seen, and the prints are of the inputs as they then are; one behind is not seen.
func TestInputsAtOneMoment(t *testing.T) {
	for _, edited := range []string{"a", "b"} {
		at := strings.Index("ab", edited)
		for behind := range 6 {
			f := under("a", "b")
			r := ruleOf(t, []string{"o", "p"}, "a", "b")
			old, anew := valuesOf("a", "b"), valuesOf("a", "b")
			anew[at] = []byte("edited")
			f.Put("o", arti.Make(printsOf(r, old...)[0], nil))
			f.Put("p", arti.Make(printsOf(r, anew...)[1], nil))
			a := need.New(r, made)
			steps(t, a, f, work(behind)...)
			f.Put(edited, []byte("edited"))
			left := 6 - behind
			switch {
			case behind > 2+at:
				steps(t, a, f, work(left-1, api.NOld)...)
				holds(t, a, printsOf(r, old...), []bool{false, true}, old)
			case behind > at:
				steps(t, a, f, work(2+at-behind+1+5, api.NOld)...)
				holds(t, a, printsOf(r, anew...), []bool{true, false}, anew)
			default:
				steps(t, a, f, work(left-1, api.NOld)...)
				holds(t, a, printsOf(r, anew...), []bool{true, false}, anew)
			}
			stays(t, a, api.NOld)
		}
	}
}

// Promise 16.1: each output is read at its own Step, once: an edit ahead of that is seen, one behind is not.
func TestEachReadOnce(t *testing.T) {
	for what, edit := range edits {
		for at := range 3 {
			for behind := range 5 {
				f := under("a")
				r := ruleOf(t, []string{"o.o", "p.o", "q.o"}, "a")
				prints := printsOf(r, valuesOf("a")...)
				for i, s := range r.Outs {
					f.Put(s, arti.Make(prints[i], nil))
				}
				a := need.New(r, made)
				steps(t, a, f, work(behind)...)
				edit(f, r.Outs[at])
				old, end := make([]bool, 3), api.NDone
				if behind <= 2+at && what != "same" {
					old[at], end = true, api.NOld
				}
				steps(t, a, f, work(5-behind-1, end)...)
				if holds(t, a, prints, old, valuesOf("a")); t.Failed() {
					t.Fatal(what, at, behind)
				}
				stays(t, a, end)
			}
		}
	}
}

// Promise 16.1: an input may go, or get bad, between its Read and its asking.
func TestMissesLater(t *testing.T) {
	for i, end := range []int{api.NNone, api.NBad} {
		f := under("a", "b.o")
		a := need.New(ruleOf(t, []string{"o"}, "a", "b.o"), made)
		steps(t, a, f, work(3)...)
		if i == 0 {
			f.Drop("b.o", nil)
		} else {
			f.Append("b.o", []byte("x"), nil)
		}
		steps(t, a, f, work(2, end)...)
		stays(t, a, end)
	}
}

// Promise 16.1: what a rule names twice is read twice; an output may be an input, too.
func TestTwice(t *testing.T) {
	f := under("a")
	r := ruleOf(t, []string{"o", "o", "a"}, "a", "a")
	in := valuesOf("a", "a")
	f.Put("o", arti.Make(printsOf(r, in...)[1], nil))
	a := need.New(r, made)
	steps(t, a, f, work(6, api.NOld)...)
	holds(t, a, printsOf(r, in...), []bool{true, false, true}, in)

	f = simf.New(wide)
	r = api.Rule{Outs: []string{"x.o"}, Ins: []string{"x.o"}, Acts: [][]api.Do{actOf(t, "all")}}
	f.Put("x.o", arti.Make(prnt.Print(r.Acts[0], [][]byte{[]byte("v")}), []byte("v")))
	a = need.New(r, made)
	steps(t, a, f, work(2, api.NDone)...)
	f.Put("x.o", arti.Make(prnt.Print(r.Acts[0], [][]byte{[]byte("v")}), []byte("w")))
	a = need.New(r, made)
	steps(t, a, f, work(2, api.NOld)...)
}

// Promise 16.1: an action of which no value comes, and what is no action, have prints, too; what became of it is another's to tell.
func TestNoValue(t *testing.T) {
	for _, do := range [][]api.Do{actOf(t, "all ; fail"), actOf(t, "in 15"), {}, {{Kind: api.AUpper}}, {{Kind: -1, N: -1, Text: "\xff"}}, make([]api.Do, 9)} {
		f := under("a")
		r := api.Rule{Outs: []string{"o"}, Ins: []string{"a"}, Acts: [][]api.Do{do}}
		prints := printsOf(r, valuesOf("a")...)
		a := need.New(r, made)
		steps(t, a, f, work(2, api.NOld)...)
		holds(t, a, prints, []bool{true}, valuesOf("a"))
		f.Put("o", arti.Make(prints[0], nil))
		a = need.New(r, made)
		steps(t, a, f, work(2, api.NDone)...)
		holds(t, a, prints, []bool{false}, valuesOf("a"))
	}
}

// Promise 16.3: a rule with more actions, or fewer, than outputs is no rule of a manifest, but ends nothing: those beyond are not asked for, and an output without one is to have the print of none.
func TestActionsBesideOutputs(t *testing.T) {
	f := under("a")
	r := ruleOf(t, []string{"o", "p", "q"}, "a")
	prints := printsOf(r, valuesOf("a")...)
	more := r
	more.Outs = r.Outs[:1]
	a := need.New(more, made)
	steps(t, a, f, work(2, api.NOld)...)
	holds(t, a, prints[:1], []bool{true}, valuesOf("a"))

	fewer := r
	fewer.Acts = r.Acts[:1]
	none := prnt.Print(nil, valuesOf("a"))
	f.Put("o", arti.Make(prints[0], nil))
	f.Put("p", arti.Make(prints[1], nil))
	a = need.New(fewer, made)
	steps(t, a, f, work(4, api.NOld)...)
	holds(t, a, [][]byte{prints[0], none, none}, []bool{false, true, true}, valuesOf("a"))
	if _, ok := prnt.Value(none); ok {
		t.Error("a value comes of no action")
	}
}

// Promise 16.1: other files, what comes first, the room, and a cut change nothing of it, nor is the cut used up.
func TestOthersDoNothing(t *testing.T) {
	f := under("a", "b.o")
	r := ruleOf(t, []string{"o", "p"}, "a", "b.o")
	prints := printsOf(r, valuesOf("a", "b.o")...)
	f.Put("o", arti.Make(prints[0], nil))
	a := need.New(r, made)
	for range 5 {
		steps(t, a, f, api.NWork)
		f.Put("other", []byte("x"))
		f.Put("none", []byte("x"))
		f.Put("claim/o", []byte("x"))
		f.Drop("none", nil)
		f.Room(0)
		f.Room(wide)
		f.Cut(0)
	}
	f.Room(0)
	steps(t, a, f, api.NOld)
	holds(t, a, prints, []bool{false, true}, valuesOf("a", "b.o"))
	if _, e := f.Append("trace", []byte("x"), nil); e != api.ErrDead {
		t.Error("the Cut was used up")
	}
}

// Rule 3: the rule that New is handed is left, the spare room behind its lists too, and is not kept.
func TestNewLeaves(t *testing.T) {
	f := under("a", "b.o")
	whole := ruleOf(t, []string{"o", "p", "spare"}, "a", "b.o", "spare")
	dos := append(slices.Clone(whole.Acts[0]), api.Do{Kind: api.ARev})
	r := whole
	r.Outs, r.Ins, r.Acts = whole.Outs[:2], whole.Ins[:2], whole.Acts[:2]
	r.Acts[0] = dos[:len(dos)-1]
	prints := printsOf(r, valuesOf("a", "b.o")...)
	f.Put("o", arti.Make(prints[0], nil))
	a := need.New(r, made)
	steps(t, a, f, api.NWork)
	clear(r.Outs)
	clear(r.Ins)
	clear(r.Acts[0])
	r.Acts[1][0].Text = "changed"
	clear(r.Acts)
	steps(t, a, f, work(4, api.NOld)...)
	holds(t, a, prints, []bool{false, true}, valuesOf("a", "b.o"))
	if !slices.Equal(whole.Outs, []string{"", "", "spare"}) || !slices.Equal(whole.Ins, []string{"", "", "spare"}) || len(whole.Acts[2]) == 0 || dos[len(dos)-1].Kind != api.ARev {
		t.Error(whole, dos)
	}
}

// Rule 3: what is told is new each time, its spare room too, and shares none with the files, nor two lists of it with each other.
func TestToldIsNew(t *testing.T) {
	f := under("a", "b.o")
	r := ruleOf(t, []string{"o", "p"}, "a", "b.o", "a")
	in := valuesOf("a", "b.o", "a")
	prints := printsOf(r, in...)
	f.Put("o", arti.Make(prints[0], nil))
	was := all(f)
	a := need.New(r, made)
	steps(t, a, f, work(7, api.NOld)...)
	wipe := func(l [][]byte) {
		for i := range l {
			clear(append(l[i], "and more"...))
			clear(l[i][:cap(l[i])])
		}
		clear(append(l, nil)[:1])
		clear(l[:cap(l)])
	}
	for range 2 {
		wipe(a.Prints())
		wipe(a.Values())
		old := a.Old()
		clear(append(old, true))
		clear(old[:cap(old)])
		holds(t, a, prints, []bool{false, true}, in)
		old = a.Old()
		old[0] = true
		holds(t, a, prints, []bool{false, true}, in)
	}
	if !slices.Equal(all(f), was) {
		t.Error("a file was changed")
	}
	l, p := a.Values(), a.Prints()
	clear(l[0])
	clear(p[0])
	if string(l[2]) != "value of a" || !bytes.Equal(p[1], prints[1]) {
		t.Error("two of them share memory")
	}
}

// Rule 1: nil and an empty list are the same.
func TestNilIsEmpty(t *testing.T) {
	for _, b := range [][]byte{nil, {}} {
		f := simf.New(wide)
		f.Put("a", b)
		r := ruleOf(t, []string{"o"}, "a")
		f.Put("o", arti.Make(printsOf(r, nil)[0], b))
		a := need.New(r, made)
		steps(t, a, f, work(2, api.NDone)...)
		holds(t, a, printsOf(r, nil), []bool{false}, [][]byte{nil})
	}
}

// Rule 3: two Asks have nothing in common.
func TestAsksAreApart(t *testing.T) {
	f := under("a")
	r := ruleOf(t, []string{"o", "p"}, "a")
	prints := printsOf(r, valuesOf("a")...)
	x, y := need.New(r, made), need.New(r, made)
	steps(t, x, f, work(3)...)
	f.Put("o", arti.Make(prints[0], nil))
	steps(t, y, f, work(3)...)
	f.Put("p", arti.Make(prints[1], nil))
	steps(t, y, f, api.NDone)
	steps(t, x, f, api.NOld)
	holds(t, x, prints, []bool{true, false}, valuesOf("a"))
	holds(t, y, prints, []bool{false, false}, valuesOf("a"))
}

// Promise 16.3: where made panics that does not get out, and nothing is told of outputs.
func TestMadePanics(t *testing.T) {
	f := under("a", "b.o")
	for _, bad := range []any{"mine", fmt.Errorf("an error"), 7} {
		a := need.New(ruleOf(t, []string{"o"}, "a", "b.o"), func(s string) bool {
			if s == "b.o" {
				panic(bad)
			}
			return false
		})
		steps(t, a, f, api.NWork, api.NBad, api.NBad)
	}
	a := need.New(ruleOf(t, []string{"o"}), func(string) bool { panic("mine") })
	steps(t, a, f, api.NWork, api.NOld)
}

// As much as a rule of a manifest may have: its prints are not too long to be opened again.
func TestLongest(t *testing.T) {
	f := simf.New(wide)
	r := api.Rule{}
	var in [][]byte
	for i := range 8 {
		s := fmt.Sprintf("i%d", i)
		r.Ins = append(r.Ins, s)
		in = append(in, bytes.Repeat([]byte{byte(i)}, 256))
		f.Put(s, in[i])
	}
	long := api.Do{Kind: api.AJoin, Text: strings.Repeat("x", 64)}
	do := []api.Do{{Kind: api.AText, Text: strings.Repeat("x", 64)}, long, long, long, long, long, long, long}
	for i := range 4 {
		r.Outs = append(r.Outs, fmt.Sprintf("o%d", i))
		r.Acts = append(r.Acts, do)
		f.Put(r.Outs[i], arti.Make(prnt.Print(do, in), nil))
	}
	a := need.New(r, made)
	steps(t, a, f, work(19, api.NDone)...)
	holds(t, a, printsOf(r, in...), make([]bool, 4), in)
}

// Very much input: many names, and long files; a print that is too long to be opened is never there.
func TestVeryMuch(t *testing.T) {
	f := under("a", "b.o")
	f.Put("o", arti.Make(prnt.Print(actOf(t, "all"), valuesOf("a", "b.o")), nil))
	r := api.Rule{Ins: []string{"a", "b.o"}}
	do := actOf(t, "all")
	for range 50_000 {
		r.Outs = append(r.Outs, "o")
		r.Acts = append(r.Acts, do)
	}
	a := need.New(r, made)
	n := 1
	for a.Step(f) == api.NWork {
		n++
	}
	if n != 50_004 || a.Step(nil) != api.NDone || len(a.Old()) != 50_000 || len(a.Prints()) != 50_000 {
		t.Error(n, len(a.Old()))
	}
	r = api.Rule{Outs: []string{"o", "p"}, Acts: [][]api.Do{do, make([]api.Do, 50_000)}}
	for range 50_000 {
		r.Ins = append(r.Ins, "a")
	}
	a = need.New(r, made)
	n = 1
	for a.Step(f) == api.NWork {
		n++
	}
	if n != 100_002 || a.Step(nil) != api.NOld || !slices.Equal(a.Old(), []bool{true, true}) || len(a.Values()) != 50_000 {
		t.Error(n, a.Old())
	}
	f.Room(1 << 30)
	f.Put("p", arti.Make(a.Prints()[0], nil))
	f.Put("q", make([]byte, 1<<25))
	r = api.Rule{Outs: []string{"p", "q"}, Ins: r.Ins, Acts: [][]api.Do{do, do}}
	a = need.New(r, made)
	for a.Step(f) == api.NWork {
	}
	if !slices.Equal(a.Old(), []bool{true, true}) {
		t.Error(a.Old())
	}
}
