package prnt_test

import (
	"bytes"
	"encoding/binary"
	"encoding/hex"
	"math"
	"slices"
	"strings"
	"testing"

	"fettle/acts"
	"fettle/api"
	"fettle/prnt"
)

// some is an action of a few Dos, with numbers and a text.
func some() []api.Do {
	return []api.Do{{Kind: api.AAll}, {Kind: api.ATake, N: 5}, {Kind: api.AJoin, Text: "-"}}
}

// values tells texts as bytes.
func values(in ...string) [][]byte {
	var l [][]byte
	for _, s := range in {
		l = append(l, []byte(s))
	}
	return l
}

// x tells so many bytes.
func x(n int) []byte {
	return bytes.Repeat([]byte{'x'}, n)
}

// number follows promise 2.1: n in six bytes, the highest first; those above and below are held.
func number(n int) []byte {
	return binary.BigEndian.AppendUint64(nil, uint64(min(max(n, 0), 1<<40)))[2:]
}

// sized tells b with its length ahead.
func sized(b []byte) []byte {
	return append(number(len(b)), b...)
}

// did follows promise 6.1: how many, and each one's Kind, N, Text.
func did(l []api.Do) []byte {
	b := number(len(l))
	for _, d := range l {
		b = slices.Concat(b, number(d.Kind), number(d.N), sized([]byte(d.Text)))
	}
	return b
}

// laid lays an action's bytes, and the inputs said to be n, as promise 10.1 has it.
func laid(action []byte, n int, in [][]byte) []byte {
	b := append(sized(action), number(n)...)
	for _, x := range in {
		b = append(b, sized(x)...)
	}
	return b
}

// written follows the words of promise 10.1.
func written(l []api.Do, in [][]byte) []byte {
	return laid(did(l), len(in), in)
}

// good tells whether promise 10.1 has a print of these be one.
func good(l []api.Do, in [][]byte) bool {
	if !acts.Ok(l) || len(in) > 8 {
		return false
	}
	for _, x := range in {
		if len(x) > 256 {
			return false
		}
	}
	return true
}

// read follows promise 10.1 in another form: all is read without any bound, a panic is what is too short, and the whole is asked behind.
func read(b []byte) (l []api.Do, in [][]byte, ok bool) {
	b = slices.Clip(b)
	defer func() {
		if recover() != nil {
			l, in, ok = nil, nil, false
		}
	}()
	take := func(n int) []byte {
		got := b[:n:n]
		b = b[n:]
		return got
	}
	num := func() int { return int(binary.BigEndian.Uint64(append([]byte{0, 0}, take(6)...))) }
	size := num()
	rest := len(b) - size
	for range num() {
		kind, n := num(), num()
		l = append(l, api.Do{Kind: kind, N: n, Text: string(take(num()))})
	}
	within := len(b) == rest
	for range num() {
		in = append(in, take(num()))
	}
	if !within || len(b) != 0 || !good(l, in) {
		return nil, nil, false
	}
	return l, in, true
}

// alike tells whether two lists hold the same bytes, nil and none alike.
func alike(a, b [][]byte) bool {
	return slices.EqualFunc(a, b, bytes.Equal)
}

// mustAgree holds Parse and Value of any bytes to the other form.
func mustAgree(t *testing.T, b []byte) {
	t.Helper()
	kept := bytes.Clone(b)
	wantL, wantIn, want := read(b)
	l, in, ok := prnt.Parse(b)
	if ok != want || !slices.Equal(l, wantL) || !alike(in, wantIn) {
		t.Errorf("Parse(% x) = %v, %q, %v, want %v, %q, %v", b, l, in, ok, wantL, wantIn, want)
	}
	var wantValue []byte
	if want {
		wantValue, want = acts.Run(wantL, wantIn)
	}
	if value, is := prnt.Value(b); is != want || !bytes.Equal(value, wantValue) {
		t.Errorf("Value(% x) = %q, %v, want %q, %v", b, value, is, wantValue, want)
	}
	if ok && !bytes.Equal(prnt.Print(l, in), b) {
		t.Errorf("% x reads as what has another print", b)
	}
	if !bytes.Equal(b, kept) {
		t.Errorf("% x is changed to % x", kept, b)
	}
}

// mustPrint holds Print to its words, and Parse and Value to what was printed.
func mustPrint(t *testing.T, l []api.Do, in [][]byte) {
	t.Helper()
	b := prnt.Print(l, in)
	if want := written(l, in); !bytes.Equal(b, want) {
		t.Errorf("Print(%v, %q) = % x, want % x", l, in, b, want)
	}
	mustAgree(t, b)
	if !good(l, in) {
		return
	}
	if gotL, gotIn, ok := prnt.Parse(b); !ok || !slices.Equal(gotL, l) || !alike(gotIn, in) {
		t.Errorf("Parse(Print(%v, %q)) = %v, %q, %v", l, in, gotL, gotIn, ok)
	}
}

// mustRefuse holds Parse and Value to false, and nothing beside it.
func mustRefuse(t *testing.T, what string, b []byte) {
	t.Helper()
	if l, in, ok := prnt.Parse(b); ok || len(l) != 0 || len(in) != 0 {
		t.Errorf("%s: Parse tells %v, %q, %v", what, l, in, ok)
	}
	if value, ok := prnt.Value(b); ok || len(value) != 0 {
		t.Errorf("%s: Value tells %q, %v", what, value, ok)
	}
}

// each is a row of actions in which each Kind is, with the fields at which something changes.
func each() [][]api.Do {
	l := [][]api.Do{{{Kind: api.AText}}, {{Kind: api.AText, Text: "a"}}, {{Kind: api.AText, Text: string(x(64))}}, {{Kind: api.AText, Text: " !#~;"}}, {{Kind: api.AIn}}, {{Kind: api.AIn, N: 7}}, {{Kind: api.AIn, N: 15}}, {{Kind: api.AAll}}, some()}
	for kind := api.AUpper; kind <= api.AFail; kind++ {
		l = append(l, []api.Do{{Kind: api.AAll}, {Kind: kind}})
	}
	for _, d := range []api.Do{{Kind: api.ATake, N: 1}, {Kind: api.ATake, N: 999}, {Kind: api.ADrop, N: 256}, {Kind: api.ADrop, N: 999}, {Kind: api.AJoin, Text: ", "}, {Kind: api.AJoin, Text: string(x(64))}} {
		l = append(l, []api.Do{{Kind: api.AAll}, d}, append(some(), d))
	}
	for n := range 8 {
		l = append(l, append([]api.Do{{Kind: api.AAll}}, slices.Repeat([]api.Do{{Kind: api.ARev}}, n)...))
	}
	return l
}

// none are rows of Dos that are no action.
func none() [][]api.Do {
	all := api.Do{Kind: api.AAll}
	l := [][]api.Do{nil, {}, {{}}, {all, {}}, {{Kind: api.ARev}}, some()[1:], {all, all}, {all, {Kind: api.AIn}}, {{Kind: 12}}, {all, {Kind: 12}}, {{Kind: 999}}, {{Kind: 1000}}, {{Kind: math.MaxInt}}}
	l = append(l, []api.Do{{Kind: api.AIn, N: 16}}, []api.Do{{Kind: api.AIn, N: math.MaxInt}}, []api.Do{{Kind: api.AIn, Text: "a"}}, []api.Do{{Kind: api.AAll, N: 1}}, []api.Do{{Kind: api.AAll, Text: "x"}})
	for _, d := range []api.Do{{Kind: api.ATake, N: 1000}, {Kind: api.ADrop, N: 1 << 40}, {Kind: api.ATake, Text: "a"}, {Kind: api.ARev, N: 1}, {Kind: api.AUpper, Text: "a"}, {Kind: api.AJoin, N: 1}, {Kind: api.AJoin, Text: "a\"b"}, {Kind: api.AJoin, Text: "\n"}, {Kind: api.AJoin, Text: "\x7f"}, {Kind: api.AJoin, Text: string(x(65))}} {
		l = append(l, []api.Do{all, d})
	}
	return append(l, []api.Do{{Kind: api.AText, Text: string(x(65))}}, []api.Do{{Kind: api.AText, Text: "\u00e9"}}, []api.Do{{Kind: api.AText, Text: "a", N: 1}}, append([]api.Do{all}, slices.Repeat([]api.Do{{Kind: api.ARev}}, 8)...))
}

// inputs is a row of lists of inputs within the bounds.
func inputs() [][][]byte {
	l := [][][]byte{nil, {}, {nil}, {{}}, values("abc", "", "xyz"), values("\x00\xff", "a"), {x(255)}, {x(256)}, slices.Repeat([][]byte{x(256)}, 8), slices.Repeat([][]byte{nil}, 8), {prnt.Print(some(), nil)}}
	for n := range 9 {
		l = append(l, slices.Repeat(values("n"), n))
	}
	return l
}

// Promise 10.1: a print is the action's bytes, how many inputs, and each of them.
func TestPrint(t *testing.T) {
	got := prnt.Print([]api.Do{{Kind: api.AIn, N: 1}, {Kind: api.AJoin, Text: "-~"}}, values("ab", "", "c"))
	want := "00000000002c" + "000000000002" + "000000000002000000000001000000000000" + "00000000000a0000000000000000000000022d7e" +
		"000000000003" + "0000000000026162" + "000000000000" + "00000000000163"
	if hex.EncodeToString(got) != want {
		t.Errorf("%x, want %s", got, want)
	}
	for _, l := range each() {
		for _, in := range inputs() {
			mustPrint(t, l, in)
		}
	}
}

// Promise 10.1: what is no action, or above the bounds, is written by the same words, and is read as none.
func TestPrintOfOthers(t *testing.T) {
	for _, l := range none() {
		for _, in := range [][][]byte{nil, values("a", "b"), slices.Repeat([][]byte{x(256)}, 8)} {
			mustPrint(t, l, in)
			mustRefuse(t, "no action", prnt.Print(l, in))
		}
	}
	for _, l := range each() {
		for _, in := range [][][]byte{{x(257)}, {nil, x(257), nil}, {x(256), x(256), x(300)}, append(slices.Repeat(values(""), 7), x(257)), slices.Repeat([][]byte{nil}, 9), slices.Repeat(values("a"), 10), slices.Repeat(values("a"), 256)} {
			mustPrint(t, l, in)
			mustRefuse(t, "too many, or too long", prnt.Print(l, in))
		}
	}
}

// Promise 10.1: a print's numbers are code's, so one below 0 is written as 0 is: it is a print of that.
func TestPrintOfNumbersBelow(t *testing.T) {
	below := prnt.Print([]api.Do{{Kind: api.AIn, N: -1}, {Kind: api.ARev, N: math.MinInt}}, values("ab"))
	if !bytes.Equal(below, prnt.Print([]api.Do{{Kind: api.AIn}, {Kind: api.ARev}}, values("ab"))) {
		t.Errorf("% x", below)
	}
	if value, ok := prnt.Value(below); !ok || string(value) != "ba" {
		t.Errorf("%q, %v", value, ok)
	}
	mustRefuse(t, "a Kind below 0", prnt.Print([]api.Do{{Kind: -1}}, nil))
	mustRefuse(t, "a second Kind below 0", prnt.Print([]api.Do{{Kind: api.AAll}, {Kind: math.MinInt}}, nil))
}

// Promise 10.1: 8 inputs may be, and 256 bytes each, and not one more.
func TestBounds(t *testing.T) {
	for n := range 20 {
		for _, size := range []int{0, 1, 255, 256, 257, 258, 512, 513, 65536 + 5} {
			in := slices.Repeat([][]byte{x(size)}, n)
			_, got, ok := prnt.Parse(prnt.Print(some(), in))
			if may := n <= 8 && (n == 0 || size <= 256); ok != may || may && !alike(got, in) || !may && len(got) != 0 {
				t.Errorf("%d inputs of %d bytes: %d inputs, %v", n, size, len(got), ok)
			}
		}
	}
}

// Promise 10.1: nothing that is cut off, or has more behind it, is a print.
func TestCutOff(t *testing.T) {
	mustRefuse(t, "none", nil)
	mustRefuse(t, "none", []byte{})
	for _, in := range [][][]byte{nil, values(""), values("abc", "", "xyz")} {
		b := prnt.Print(some(), in)
		for n := range b {
			mustRefuse(t, "cut off", b[:n])
			mustRefuse(t, "cut off ahead", b[n+1:])
		}
		for _, more := range [][]byte{{0}, {1}, number(0), sized([]byte("more")), b} {
			mustRefuse(t, "more behind it", slices.Concat(b, more))
			mustRefuse(t, "more ahead of it", slices.Concat(more, b))
		}
	}
}

// Promise 10.1: a count or a length must be that of what stands there, and nothing may stand between.
func TestPiecesThatDoNotFit(t *testing.T) {
	action, in := did(some()), values("abc", "d")
	if !bytes.Equal(laid(action, 2, in), prnt.Print(some(), in)) {
		t.Fatal("the pieces are others")
	}
	for _, n := range []int{0, 1, 3, 8, 9, 1 << 31, 1 << 40} {
		mustRefuse(t, "another count of inputs", laid(action, n, in))
	}
	for _, n := range []int{0, 1, 2, 4, 8, 9, 1 << 31, 1 << 40} {
		mustRefuse(t, "another count of Dos", laid(append(number(n), action[6:]...), 2, in))
	}
	for _, more := range [][]byte{{0}, number(0), sized(nil), did(some())} {
		mustRefuse(t, "more behind the Dos", laid(slices.Concat(action, more), 2, in))
		mustRefuse(t, "more ahead of the Dos", laid(slices.Concat(more, action), 2, in))
		mustRefuse(t, "more behind the action", slices.Concat(sized(action), more, number(2), sized(in[0]), sized(in[1])))
		mustRefuse(t, "more between the inputs", slices.Concat(sized(action), number(2), sized(in[0]), more, sized(in[1])))
	}
	for n := range action {
		mustRefuse(t, "the Dos cut off", laid(action[:n], 2, in))
		mustRefuse(t, "a shorter length of the Dos", slices.Concat(number(n), action, number(2), sized(in[0]), sized(in[1])))
	}
	mustRefuse(t, "Dos alone", action)
	mustRefuse(t, "inputs alone", append(number(2), slices.Concat(sized(in[0]), sized(in[1]))...))
}

// Promise 10.1: numbers that no Do has, whatever they are in fewer bits, are none.
func TestGreatNumbers(t *testing.T) {
	for _, great := range []int{1 << 8, 1 << 16, 1 << 31, 1 << 32, 1 << 40} {
		for _, d := range []api.Do{{Kind: great + api.AAll}, {Kind: great + api.AText}, {Kind: api.AIn, N: great}} {
			mustPrint(t, []api.Do{d}, values("a"))
			mustRefuse(t, "a great number", prnt.Print([]api.Do{d}, values("a")))
		}
		if great > 999 {
			mustRefuse(t, "a great N", prnt.Print([]api.Do{{Kind: api.AAll}, {Kind: api.ATake, N: great + 1}}, nil))
		}
	}
	b := prnt.Print([]api.Do{{Kind: api.AIn, N: 1}}, values("a", "b"))
	for at := range b {
		for bit := range 8 {
			other := bytes.Clone(b)
			other[at] ^= 1 << bit
			mustAgree(t, other)
		}
	}
}

// Promise 10.1 (2.2): each thing has one form: no bytes that are changed, taken out or put in read as anything but what has just that print.
func TestOneForm(t *testing.T) {
	b := prnt.Print([]api.Do{{Kind: api.AText, Text: "ab"}, {Kind: api.ADrop, N: 1}, {Kind: api.AJoin}}, values("abc", "", "\x00"))
	prints := 0
	for at := range b {
		for c := range 256 {
			changed, in := bytes.Clone(b), slices.Insert(bytes.Clone(b), at, byte(c))
			changed[at] = byte(c)
			mustAgree(t, changed)
			mustAgree(t, in)
			if _, _, ok := prnt.Parse(changed); ok {
				prints++
			}
		}
		mustAgree(t, slices.Delete(bytes.Clone(b), at, at+1))
		for _, to := range []int{at + 2, at + 6, at + 12, at + 18} {
			if to <= len(b) {
				mustAgree(t, slices.Delete(bytes.Clone(b), at, to))
				mustAgree(t, slices.Insert(bytes.Clone(b), at, b[at:to]...))
			}
		}
	}
	if prints < 1000 {
		t.Errorf("only %d changed prints are prints", prints)
	}
}

// Promise 10.1: the value is what acts.Run makes of the print's action and inputs.
func TestValue(t *testing.T) {
	for _, c := range []struct {
		l    []api.Do
		in   [][]byte
		want string
		ok   bool
	}{
		{some(), values("abc", "", "xyz"), "a-b-c-x-y", true},
		{some(), nil, "", true},
		{some()[:1], [][]byte{x(256)}, string(x(256)), true},
		{some()[:1], [][]byte{x(256), {'a'}}, "", false},
		{some()[:1], slices.Repeat([][]byte{x(32)}, 8), string(x(256)), true},
		{some(), slices.Repeat([][]byte{x(256)}, 8), "", false},
		{[]api.Do{{Kind: api.AIn, N: 7}}, values("0", "1", "2", "3", "4", "5", "6", "7"), "7", true},
		{[]api.Do{{Kind: api.AIn, N: 7}}, values("0", "1", "2", "3", "4", "5", "6"), "", false},
		{[]api.Do{{Kind: api.AIn, N: 15}}, slices.Repeat(values("a"), 8), "", false},
		{[]api.Do{{Kind: api.AIn}}, nil, "", false},
		{[]api.Do{{Kind: api.AText, Text: "hi"}, {Kind: api.AUpper}}, values("a"), "HI", true},
		{[]api.Do{{Kind: api.AAll}, {Kind: api.AFail}}, values("a"), "", false},
		{[]api.Do{{Kind: api.AAll}, {Kind: api.ATwice}}, [][]byte{x(128)}, string(x(256)), true},
		{[]api.Do{{Kind: api.AAll}, {Kind: api.ATwice}}, [][]byte{x(129)}, "", false},
	} {
		b := prnt.Print(c.l, c.in)
		if _, _, ok := prnt.Parse(b); !ok {
			t.Errorf("%v of %q is no print", c.l, c.in)
		}
		if got, ok := prnt.Value(b); ok != c.ok || string(got) != c.want {
			t.Errorf("%v of %q: %q, %v, want %q, %v", c.l, c.in, got, ok, c.want, c.ok)
		}
	}
}

// Promise 10.2 (W2): who has the print knows what the thing was made of, and so its value: others have other prints, and of one print one value comes, whatever is asked between.
func TestPrintKnowsTheValue(t *testing.T) {
	type made struct {
		l     []api.Do
		in    [][]byte
		value string
		ok    bool
	}
	in := [][][]byte{nil, values(""), values("", ""), values("ab", "c"), values("a", "bc"), values("abc"), values("abc", ""), values("", "abc"), values("c", "ab"), values("\x00\x00\x00\x00\x00\x01a"), values("a", "a"), values("aa")}
	known := map[string]made{}
	for _, l := range each() {
		for _, one := range in {
			b := string(prnt.Print(l, one))
			if old, there := known[b]; there && !(slices.Equal(old.l, l) && alike(old.in, one)) {
				t.Errorf("%v of %q and %v of %q have one print", old.l, old.in, l, one)
			}
			value, ok := acts.Run(l, one)
			known[b] = made{l, one, string(value), ok}
		}
	}
	for range 3 {
		for b, m := range known {
			if value, ok := prnt.Value([]byte(b)); ok != m.ok || string(value) != m.value {
				t.Errorf("%v of %q: %q, %v, want %q, %v", m.l, m.in, value, ok, m.value, m.ok)
			}
		}
	}
}

// Promise 10.2 (W2): what was made is known still where what it was made of is another by then.
func TestPrintIsNotOfNow(t *testing.T) {
	l, in := some(), values("abc", "xyz")
	b := prnt.Print(l, in)
	in[0][0], in[1] = '?', []byte("other")
	l[1].N, l[2].Text = 1, "?"
	if value, ok := prnt.Value(b); !ok || string(value) != "a-b-c-x-y" {
		t.Errorf("%q, %v", value, ok)
	}
}

// Rule 1: nil and an empty list are the same to each call.
func TestNone(t *testing.T) {
	for _, l := range [][]api.Do{nil, {}, make([]api.Do, 0, 5)} {
		for _, in := range [][][]byte{nil, {}, make([][]byte, 0, 5)} {
			if b := prnt.Print(l, in); !bytes.Equal(b, append(sized(number(0)), number(0)...)) {
				t.Errorf("% x", b)
			}
		}
	}
	if !bytes.Equal(prnt.Print(some(), [][]byte{nil, {}}), prnt.Print(some(), [][]byte{make([]byte, 0, 9), nil})) {
		t.Error("nil and an empty input have two prints")
	}
	l, in, ok := prnt.Parse(prnt.Print(some(), nil))
	if !ok || !slices.Equal(l, some()) || len(in) != 0 {
		t.Errorf("of no inputs: %v, %q, %v", l, in, ok)
	}
}

// Rule 3: what is handed in, and the room behind it, is left as it is.
func TestHandedInIsLeft(t *testing.T) {
	room := []byte("abcdefgh")
	in := append(make([][]byte, 0, 4), room[:3:8], room[2:4:8])
	l := append(make([]api.Do, 0, 9), some()...)
	b := prnt.Print(l, in)
	if !bytes.Equal(b, written(some(), values("abc", "cd"))) {
		t.Errorf("% x", b)
	}
	if string(room) != "abcdefgh" || in[:3][2] != nil || !slices.Equal(l, some()) || l[:4][3] != (api.Do{}) {
		t.Error("what was printed is changed")
	}
	all := append(bytes.Clone(b), "what is behind"...)
	mustAgree(t, all[:len(b)])
	if string(all[len(b):]) != "what is behind" {
		t.Error("the room behind a print is changed")
	}
	if _, _, ok := prnt.Parse(all[:len(b)-1]); ok {
		t.Error("the room behind a print is read")
	}
}

// Rule 3: what is answered is new memory, its spare room too, and no two lists of one answer share any.
func TestAnsweredIsNew(t *testing.T) {
	scrawl := func(b []byte) {
		for i := range b[:cap(b)] {
			b[:cap(b)][i] = '!'
		}
	}
	given := values("abc", "", "xyz")
	b := prnt.Print(some(), given)
	kept := bytes.Clone(b)
	scrawl(prnt.Print(some(), given))
	if string(given[0]) != "abc" || string(given[2]) != "xyz" {
		t.Errorf("a print shares memory with its inputs: %q", given)
	}
	for i := range 3 {
		l, in, _ := prnt.Parse(b)
		scrawl(in[i])
		for j, want := range []string{"abc", "", "xyz"} {
			if j != i && string(in[j]) != want {
				t.Errorf("inputs %d and %d share memory: %q", i, j, in[j])
			}
		}
		for j := range l[:cap(l)] {
			l[:cap(l)][j] = api.Do{Kind: api.AFail}
		}
		for j := range in[:cap(in)] {
			in[:cap(in)][j] = []byte("other")
		}
	}
	value, _ := prnt.Value(b)
	scrawl(value)
	if !bytes.Equal(b, kept) {
		t.Errorf("what is answered is lent: % x", b)
	}
	l, in, ok := prnt.Parse(b)
	value, is := prnt.Value(b)
	scrawl(b)
	if !ok || !slices.Equal(l, some()) || !alike(in, given) || !is || string(value) != "a-b-c-x-y" {
		t.Errorf("what was handed in, or answered, is kept: %v, %q, %q", l, in, value)
	}
}

// Promise 10.3: no call panics and each ends, on very much too, and on numbers with too little behind them.
func TestMany(t *testing.T) {
	const many = 1 << 17
	in := slices.Repeat(values("ab"), many)
	if b := prnt.Print(some(), in); !bytes.Equal(b, laid(did(some()), many, in)) {
		t.Errorf("%d bytes of many inputs", len(b))
	}
	dos := slices.Repeat(some(), many)
	b := prnt.Print(dos, nil)
	if len(b) != 12+6+many*(3*18+1) {
		t.Errorf("%d bytes of many Dos", len(b))
	}
	mustRefuse(t, "many Dos", b)
	mustRefuse(t, "many inputs", prnt.Print(some(), in))
	mustRefuse(t, "a great input", prnt.Print(some(), [][]byte{make([]byte, 1<<26)}))
	mustRefuse(t, "a great text", prnt.Print([]api.Do{{Kind: api.AText, Text: strings.Repeat("x", 1<<26)}}, nil))
	great := bytes.Repeat([]byte{255}, 6)
	for _, n := range [][]byte{great, number(1 << 40), number(1 << 31), {128, 0, 0, 0, 0, 0}, {1, 0, 0, 0, 0, 3}} {
		for _, s := range []string{"", "too short", string(make([]byte, 1000))} {
			mustRefuse(t, "a length of the Dos", append(bytes.Clone(n), s...))
			mustRefuse(t, "a count of the Dos", append(sized(append(bytes.Clone(n), s...)), number(0)...))
			mustRefuse(t, "a length of a text", append(sized(slices.Concat(number(1), number(api.AText), number(0), n, []byte(s))), number(0)...))
			mustRefuse(t, "a count of inputs", slices.Concat(sized(did(some())), n, []byte(s)))
			mustRefuse(t, "a length of an input", slices.Concat(sized(did(some())), number(1), n, []byte(s)))
		}
		mustRefuse(t, "a Kind", append(sized(slices.Concat(number(1), n, number(0), number(0))), number(0)...))
		mustRefuse(t, "an N", append(sized(slices.Concat(number(1), number(api.AIn), n, number(0))), number(0)...))
	}
}

// dosOf makes any Dos of any bytes, most of them near to what is an action.
func dosOf(b []byte) []api.Do {
	var l []api.Do
	for ; len(b) >= 3; b = b[3:] {
		d := api.Do{Kind: int(b[0]) % 13}
		switch d.Kind {
		case api.AText, api.AJoin:
			d.Text = strings.Repeat(string(rune(b[1]%128)), int(b[2])%67)
		case api.AIn:
			d.N = int(b[1]) % 17
		case api.ATake, api.ADrop:
			d.N = int(b[1]) * int(b[2]) % 1002
		}
		if b[2] == 255 {
			d.N = int(int8(b[1]))
		}
		l = append(l, d)
	}
	return l
}

// mustHold holds all calls to each other, of any bytes: as a print, as Dos and inputs, and as a print that is changed at a place.
func mustHold(t *testing.T, dos, one, two []byte, at int) {
	t.Helper()
	mustAgree(t, one)
	mustAgree(t, laid(dos, 2, [][]byte{one, two}))
	mustAgree(t, slices.Concat(sized(did(some())), one))
	l := dosOf(dos)
	in := slices.Repeat([][]byte{one, two}, len(dos)%6)
	b := prnt.Print(l, in)
	if !bytes.Equal(b, written(l, in)) {
		t.Errorf("Print(%v, %q) = % x", l, in, b)
	}
	mustAgree(t, b)
	at = int(uint(at) % uint(len(b)))
	for _, c := range two {
		b[at] = c
		mustAgree(t, b)
	}
}

// Promises 10.1 to 10.3: of any bytes, any Dos and any inputs.
func TestAny(t *testing.T) {
	state := uint32(1)
	next := func() uint32 {
		state = state*1664525 + 1013904223
		return state >> 16
	}
	for range 10000 {
		var parts [3][]byte
		for i := range parts {
			parts[i] = make([]byte, next()%(4<<(next()%8)))
			for j := range parts[i] {
				parts[i][j] = byte(next())
			}
		}
		parts[0] = parts[0][:len(parts[0])%28]
		if len(parts[0]) > 0 {
			parts[0][0] = parts[0][0]%3 + 1
		}
		mustHold(t, parts[0], parts[1], parts[2][:min(len(parts[2]), 4)], int(next()))
	}
}

// Promise 10.3: any bytes are a print or none, and no call panics.
func FuzzAll(f *testing.F) {
	f.Add([]byte(nil), []byte(nil), []byte(nil), 0)
	f.Add([]byte{3, 0, 0, 7, 5, 1, 10, '-', 1}, written(some(), values("abc", "")), []byte("aB\xff"), 5)
	f.Add(did(some()), laid(did(some()), 1<<40, nil), []byte{0, 1, 255}, -1)
	f.Add(number(9), written(nil, nil), []byte{}, math.MinInt)
	f.Fuzz(mustHold)
}
