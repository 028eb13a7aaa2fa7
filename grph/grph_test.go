package grph_test

import (
	"cmp"
	"iter"
	"math"
	"slices"
	"strconv"
	"strings"
	"testing"

	"fettle/grph"
)

// ahead tells what is ahead of each thing by rows of letters: "abc" says that b and c are ahead of a.
func ahead(rows ...string) func(string) []string {
	return func(x string) []string {
		var l []string
		for _, row := range rows {
			if strings.HasPrefix(row, x) {
				l = append(l, strings.Split(row[1:], "")...)
			}
		}
		return l
	}
}

// letters parts s into its letters.
func letters(s string) []string {
	return strings.Split(s, "")
}

// holds tells whether x is in l, NaN too.
func holds[K cmp.Ordered](l []K, x K) bool {
	return slices.ContainsFunc(l, func(y K) bool { return cmp.Compare(x, y) == 0 })
}

// once tells the things of l, each once, by their first places.
func once[K cmp.Ordered](l []K) []K {
	var out []K
	for _, x := range l {
		if !holds(out, x) {
			out = append(out, x)
		}
	}
	return out
}

// otherOrder follows what promise 8.1 says of Order in another form: each time l is gone through from its beginning for the first thing that may come next.
func otherOrder[K cmp.Ordered](l []K, ahead func(K) []K) ([]K, bool) {
	l = once(l)
	var told []K
	for len(told) < len(l) {
		at := slices.IndexFunc(l, func(x K) bool {
			return !holds(told, x) && !slices.ContainsFunc(ahead(x), func(y K) bool { return holds(l, y) && !holds(told, y) })
		})
		if at < 0 {
			return nil, false
		}
		told = append(told, l[at])
	}
	return told, true
}

// otherReach follows what promise 8.1 says of Reach in another form: from, and ring by ring what is ahead of the ring before.
func otherReach[K cmp.Ordered](from []K, ahead func(K) []K) []K {
	var told []K
	for ring := once(from); len(ring) > 0; {
		told = append(told, ring...)
		var named []K
		for _, x := range ring {
			named = append(named, ahead(x)...)
		}
		ring = slices.DeleteFunc(once(named), func(x K) bool { return holds(told, x) })
	}
	return told
}

// same tells whether a and b have the same things in the same order, NaN too, and noughts by their signs.
func same[K cmp.Ordered](a, b []K) bool {
	return slices.EqualFunc(a, b, func(x, y K) bool {
		f, isFloat := any(x).(float64)
		g, _ := any(y).(float64)
		return cmp.Compare(x, y) == 0 && (!isFloat || math.Signbit(f) == math.Signbit(g))
	})
}

// mustOrder holds Order to what it is to answer, and to new memory each time.
func mustOrder[K cmp.Ordered](t *testing.T, l []K, ahead func(K) []K, want []K, ok bool) {
	t.Helper()
	was := slices.Clone(l)
	for range 2 {
		got, told := grph.Order(l, ahead)
		if told != ok || !same(got, want) {
			t.Errorf("Order(%v) = %v, %v, want %v, %v", l, got, told, want, ok)
		}
		if !same(l, was) {
			t.Errorf("Order(%v) changes what it is given to %v", was, l)
		}
		clear(got[:cap(got)])
	}
}

// mustReach holds Reach to what it is to tell, twice by the same sequence, and left at each place.
func mustReach[K cmp.Ordered](t *testing.T, from []K, ahead func(K) []K, want []K) {
	t.Helper()
	was := slices.Clone(from)
	all := grph.Reach(from, ahead)
	for range 2 {
		mustPass(t, all, want)
	}
	for stop := range want {
		n := 0
		all(func(x K) bool {
			n++
			return n <= stop
		})
		if n != stop+1 {
			t.Errorf("Reach(%v) is left at %d, and goes on to %d", from, stop, n)
		}
	}
	mustPass(t, all, want)
	if !same(from, was) {
		t.Errorf("Reach(%v) changes what it is given to %v", was, from)
	}
}

// mustPass holds one way through all to what it is to tell.
func mustPass[K cmp.Ordered](t *testing.T, all iter.Seq[K], want []K) {
	t.Helper()
	n := 0
	for x := range all {
		if n == len(want) || !same([]K{x}, want[n:n+1]) {
			t.Errorf("%v at %d of %v", x, n, want)
			return
		}
		n++
	}
	if n != len(want) {
		t.Errorf("the end at %d of %v", n, want)
	}
}

// mustAgree holds both calls on l to the words in their other form.
func mustAgree[K cmp.Ordered](t *testing.T, l []K, ahead func(K) []K) {
	t.Helper()
	want, ok := otherOrder(l, ahead)
	mustOrder(t, l, ahead, want, ok)
	mustReach(t, l, ahead, otherReach(l, ahead))
}

// Promise 8.1: each behind all that is ahead of it and in l, and always the first of those that may come next.
func TestOrder(t *testing.T) {
	for _, x := range []struct {
		l     string
		ahead []string
		want  string
	}{
		{"", nil, ""},
		{"", []string{"ab", "ba"}, ""},
		{"a", nil, "a"},
		{"ba", nil, "ba"},
		{"cab", nil, "cab"},
		{"cab", []string{"cb"}, "abc"},
		{"cab", []string{"ca"}, "acb"},
		{"cab", []string{"ca", "ab"}, "bac"},
		{"cab", []string{"cabab"}, "abc"},
		{"dcba", []string{"da", "cb"}, "bcad"},
		{"abcd", []string{"abcd"}, "bcda"},
		{"abcd", []string{"ad", "bd", "cd"}, "dabc"},
		{"abcdefgh", []string{"ah", "cg", "eb"}, "bdefgcha"},
		{"abcdefgh", []string{"ab", "bc", "cd", "de", "ef", "fg", "gh"}, "hgfedcba"},
	} {
		mustOrder(t, letters(x.l), ahead(x.ahead...), letters(x.want), true)
	}
}

// Promise 8.1: each of l once, by its first place, though it stands there again, or is named ahead again.
func TestOrderOnce(t *testing.T) {
	mustOrder(t, letters("aaaa"), ahead(), letters("a"), true)
	mustOrder(t, letters("abcab"), ahead(), letters("abc"), true)
	mustOrder(t, letters("bacbcab"), ahead("bcc", "bc"), letters("acb"), true)
	mustOrder(t, letters("bbbaaa"), ahead("baaaa"), letters("ab"), true)
}

// Promise 8.1: what is ahead and not in l is left out, and nothing is ahead by way of it.
func TestOrderOfOthersAhead(t *testing.T) {
	mustOrder(t, letters("ab"), ahead("az", "bq"), letters("ab"), true)
	mustOrder(t, letters("ab"), ahead("az", "zb"), letters("ab"), true)
	mustOrder(t, letters("ab"), ahead("az", "zbza"), letters("ab"), true)
	mustOrder(t, letters("abc"), ahead("azcz", "zz"), letters("bca"), true)
}

// Promise 8.1: false, and nothing beside it, where some lead round, be it one alone, or far from what stands first.
func TestOrderRound(t *testing.T) {
	for _, x := range []struct {
		l     string
		ahead []string
	}{
		{"a", []string{"aa"}},
		{"abc", []string{"bb"}},
		{"abc", []string{"cacb", "ccab"}},
		{"ab", []string{"ab", "ba"}},
		{"abc", []string{"ab", "bc", "ca"}},
		{"abcdef", []string{"ef", "fe"}},
		{"abcdef", []string{"ab", "bc", "cd", "de", "ef", "fc"}},
		{"aabb", []string{"ab", "ba"}},
		{"abcd", []string{"azb", "bza"}},
	} {
		mustOrder(t, letters(x.l), ahead(x.ahead...), nil, false)
	}
}

// Promise 8.1: all that from and what is ahead of it name, each once, ring by ring.
func TestReach(t *testing.T) {
	for _, x := range []struct {
		from  string
		ahead []string
		want  string
	}{
		{"", nil, ""},
		{"", []string{"ab"}, ""},
		{"ba", nil, "ba"},
		{"aba", nil, "ab"},
		{"a", []string{"aa"}, "a"},
		{"a", []string{"ab", "ba"}, "ab"},
		{"a", []string{"acb"}, "acb"},
		{"ba", []string{"ac", "bd"}, "badc"},
		{"a", []string{"abc", "bd", "ce", "da"}, "abcde"},
		{"a", []string{"abc", "bde", "cdf", "fg"}, "abcdefg"},
		{"ae", []string{"ab", "bc", "cd", "ed"}, "aebdc"},
		{"a", []string{"abab", "bbcb"}, "abc"},
		{"c", []string{"ab", "bc", "cz"}, "cz"},
		{"ca", []string{"ab", "bc", "cb"}, "cab"},
	} {
		mustReach(t, letters(x.from), ahead(x.ahead...), letters(x.want))
	}
}

// Promise 8.1: both calls, of all that may be ahead among three things and in all orders of them, and of much of what may be among four.
func TestAllSmall(t *testing.T) {
	three, four := permutations("abc"), permutations("abcd")
	for bits := range 1 << 9 {
		for _, l := range three {
			mustAgree(t, l, aheadOf(bits, 3))
			mustAgree(t, slices.Concat(l[1:], l), aheadOf(bits, 3))
			mustAgree(t, l[:2], aheadOf(bits, 3))
		}
	}
	for bits := 0; bits < 1<<16; bits += 7 {
		mustAgree(t, four[bits%len(four)], aheadOf(bits, 4))
		mustAgree(t, four[bits%len(four)][1:3], aheadOf(bits, 4))
	}
}

// aheadOf tells what is ahead among n letters: a bit for each two of them.
func aheadOf(bits, n int) func(string) []string {
	return func(x string) []string {
		var l []string
		for i := range n {
			if bits>>(int(x[0]-'a')*n+i)&1 == 1 {
				l = append(l, string(rune('a'+i)))
			}
		}
		return l
	}
}

// permutations tells the letters of s in all orders.
func permutations(s string) [][]string {
	if s == "" {
		return [][]string{nil}
	}
	var all [][]string
	for i := range len(s) {
		for _, l := range permutations(s[:i] + s[i+1:]) {
			all = append(all, append([]string{s[i : i+1]}, l...))
		}
	}
	return all
}

// named is a kind of its own over text.
type named string

// Promise 8.1 and its Ways: things of any kind that is ordered.
func TestKinds(t *testing.T) {
	mustAgree(t, []int{5, 3, 4, 3}, func(n int) []int { return []int{max(n-1, 0)} })
	mustAgree(t, []int{math.MaxInt, 0, math.MinInt}, func(n int) []int { return []int{-n, n / 2} })
	mustAgree(t, []uint8{255, 0, 1, 254}, func(n uint8) []uint8 { return []uint8{n + 2} })
	mustAgree(t, []int64{1, 2, 3}, func(n int64) []int64 { return []int64{n % 3} })
	mustAgree(t, []uintptr{8, 4, 2, 1}, func(n uintptr) []uintptr { return []uintptr{n / 2, n / 4} })
	mustAgree(t, []float32{1.5, 0.5, 2.5}, func(n float32) []float32 { return []float32{max(n-1, 0)} })
	mustAgree(t, []named{"abc", "", "ab", "b"}, func(s named) []named { return []named{s[:len(s)/2], s[len(s)/2:]} })
	mustOrder(t, []string{"\xff", "", "\x00", "a\x00"}, func(s string) []string { return []string{"\x00"} }, nil, false)
	mustOrder(t, []string{"\xff", "", "a", "a\x00"}, func(s string) []string { return []string{s + "\x00"} }, []string{"\xff", "", "a\x00", "a"}, true)
}

// Promises 8.1 and 8.3: a NaN is one thing like any other, though not equal to itself: each once, found again, and both calls end. Both noughts are one, the first.
func TestNaN(t *testing.T) {
	nan, other, minus := math.NaN(), -math.NaN(), math.Copysign(0, -1)
	none := func(float64) []float64 { return nil }
	mustOrder(t, []float64{nan, 1, other, nan}, none, []float64{nan, 1}, true)
	mustOrder(t, []float64{1, nan}, func(x float64) []float64 {
		if x == 1 {
			return []float64{other}
		}
		return nil
	}, []float64{nan, 1}, true)
	mustOrder(t, []float64{nan}, func(float64) []float64 { return []float64{nan} }, nil, false)
	mustOrder(t, []float64{2, nan}, func(x float64) []float64 { return []float64{x - x + 2, other} }, nil, false)
	mustOrder(t, []float64{minus, 1, 0}, none, []float64{minus, 1}, true)
	mustOrder(t, []float64{1, 0}, func(x float64) []float64 { return []float64{minus}[:int(x)] }, []float64{0, 1}, true)
	mustReach(t, []float64{1, nan}, func(x float64) []float64 { return []float64{x, other, math.Inf(1) - math.Inf(1)} }, []float64{1, nan})
	mustReach(t, []float64{1}, func(x float64) []float64 { return []float64{nan, 0, x / 0, minus} }, []float64{1, nan, 0, math.Inf(1)})
}

// Promise 8.1: ahead of each that was told, and of nothing else, is asked: who leaves an endless way is not held up.
func TestReachIsLeft(t *testing.T) {
	for most := range 20 {
		var told, asked []int
		for x := range grph.Reach([]int{1}, func(n int) []int {
			asked = append(asked, n)
			return []int{2 * n, 2*n + 1}
		}) {
			told = append(told, x)
			if len(told) > most {
				break
			}
		}
		for i, x := range told {
			if x != i+1 {
				t.Errorf("%d at %d", x, i)
			}
		}
		if len(told) != most+1 || !slices.Equal(asked, told[:most]) {
			t.Errorf("told %v, asked %v", told, asked)
		}
	}
}

// Promise 8.1: ways through the same things know nothing of each other.
func TestReachWithinReach(t *testing.T) {
	all := grph.Reach(letters("ca"), ahead("ab", "bd", "ca"))
	n := 0
	for x := range all {
		if x != letters("cabd")[n] {
			t.Errorf("%q at %d", x, n)
		}
		mustPass(t, all, letters("cabd"))
		n++
	}
	if n != 4 {
		t.Errorf("%d outside", n)
	}
}

// Rule 3: what is handed in is not kept: neither from, though it is gone through later, nor what ahead answers, though it answers by the same memory each time.
func TestNothingIsKept(t *testing.T) {
	from := letters("ca")
	all := grph.Reach(from, ahead("ab", "bd"))
	clear(from)
	mustPass(t, all, letters("cabd"))
	from = letters("ca")
	all = grph.Reach(from, ahead("ab", "bd"))
	for range all {
		clear(from)
	}
	mustPass(t, all, letters("cabd"))

	var lent [2]int
	lend := func(n int) []int {
		lent = [2]int{n / 2, n / 3}
		return lent[:]
	}
	want := []int{24, 12, 8, 6, 4, 2, 3, 1, 0}
	for range 2 {
		n := 0
		for x := range grph.Reach([]int{24}, lend) {
			if x != want[n] {
				t.Errorf("%d, want %d: what ahead answers is kept", x, want[n])
			}
			n++
			lent = [2]int{-1, -2}
		}
	}
	l := []int{7, 6, 5, 4, 3, 2, 1}
	got, ok := grph.Order(l, func(n int) []int {
		lent = [2]int{n / 2, n - 1}
		l[n-1] = 0
		return lent[:]
	})
	if !ok || !slices.Equal(got, []int{1, 2, 3, 4, 5, 6, 7}) {
		t.Errorf("%v, %v: what was handed in is kept", got, ok)
	}
}

// Rule 3: what is handed in, and the room behind it, is left as it is, and the room doesn't count; what is answered is new.
func TestHandedInIsLeft(t *testing.T) {
	room := letters("cabxyz")
	needs := letters("bxyz")
	lend := func(x string) []string { return needs[:len(x)*strings.Count(x, "c")] }
	mustOrder(t, room[:3], lend, letters("abc"), true)
	mustReach(t, room[:3], lend, letters("cab"))
	mustReach(t, room[:1], lend, letters("cb"))
	got, _ := grph.Order(room[:3], lend)
	_ = append(got, "over", "the", "room")
	clear(got)
	if strings.Join(room, "") != "cabxyz" || strings.Join(needs, "") != "bxyz" {
		t.Errorf("what was handed in is changed: %v, %v", room, needs)
	}
}

// Rule 1: nil and an empty list are the same.
func TestNone(t *testing.T) {
	for _, l := range [][]string{nil, {}, make([]string, 0, 5)} {
		none := func(string) []string { return l }
		mustOrder(t, l, none, nil, true)
		mustReach(t, l, none, nil)
		mustOrder(t, letters("ba"), none, letters("ba"), true)
		mustReach(t, letters("ba"), none, letters("ba"))
	}
}

// Promise 8.3: no call panics, though ahead does; of what comes first nothing is told then, and Reach tells what is named all the same.
func TestAheadPanics(t *testing.T) {
	wild := func(x string) []string {
		if x == "b" {
			panic("no such thing")
		}
		return ahead("ac", "cd")(x)
	}
	mustOrder(t, letters("abc"), wild, nil, false)
	mustOrder(t, letters("ca"), wild, letters("ca"), true)
	mustReach(t, letters("ba"), wild, letters("bacd"))
	var none map[string][]string
	mustOrder(t, letters("a"), func(x string) []string { none[x] = nil; return nil }, nil, false)
	mustOrder(t, letters("a"), func(x string) []string { panic(nil) }, nil, false)
}

// A way through may be left by a panic of who goes it: it is theirs, and gets to them.
func TestPanicOfWhoGoes(t *testing.T) {
	defer func() {
		if recover() != "mine" {
			t.Error("the panic is lost")
		}
	}()
	for x := range grph.Reach(letters("ab"), ahead()) {
		if x == "b" {
			panic("mine")
		}
	}
}

// Promise 8.3: each call ends, on very many things too, in a time that grows not much faster than they do.
func TestMany(t *testing.T) {
	const n = 300000
	up := make([]int, n)
	for i := range up {
		up[i] = i
	}
	down := slices.Clone(up)
	slices.Reverse(down)
	before := func(i int) []int { return []int{i - 1} }
	behind := func(i int) []int { return []int{i + 1} }
	last := func(i int) []int { return []int{n - 1}[i/(n-1):] }
	all := func(i int) []int { return up[1 : 1+(n-1)*max(1-i, 0)] }
	mustBeLong(t, "a chain upward", up, before, up)
	mustBeLong(t, "a chain downward", down, before, up)
	mustBeLong(t, "a chain against l", up, behind, down)
	mustBeLong(t, "none ahead", down, func(int) []int { return nil }, down)
	mustBeLong(t, "one ahead of all others", up, last, slices.Concat(up[n-1:], up[:n-1]))
	mustBeLong(t, "all others ahead of one", up, all, slices.Concat(up[1:], up[:1]))
	if l, ok := grph.Order(up, func(i int) []int { return []int{(i + 1) % n} }); ok || len(l) != 0 {
		t.Errorf("a long way round: %d told", len(l))
	}
	told := 0
	for i := range grph.Reach([]int{0}, func(i int) []int { return []int{(i + 1) % n} }) {
		if i != told {
			t.Fatalf("%d at %d", i, told)
		}
		told++
	}
	if told != n {
		t.Errorf("%d told of a long way round", told)
	}
}

// mustBeLong holds Order of many things to want.
func mustBeLong(t *testing.T, what string, l []int, ahead func(int) []int, want []int) {
	t.Helper()
	got, ok := grph.Order(l, ahead)
	if !ok || !slices.Equal(got, want) {
		t.Errorf("%s: %v, and %d told", what, ok, len(got))
	}
}

// Promises 8.1 and 8.3: any things with anything ahead, held to the words in their other form.
func FuzzOrder(f *testing.F) {
	f.Add([]byte("abcab"), []byte("abbc"))
	f.Add([]byte("dcba"), []byte("dacb"))
	f.Add([]byte("ab"), []byte("abba"))
	f.Add([]byte(nil), []byte("aa"))
	f.Fuzz(func(t *testing.T, l, pairs []byte) {
		l, pairs = l[:min(len(l), 60)], pairs[:min(len(pairs), 120)]
		mustAgree(t, l, func(x byte) []byte {
			var out []byte
			for i := 1; i < len(pairs); i += 2 {
				if pairs[i-1] == x {
					out = append(out, pairs[i])
				}
			}
			return out
		})
		mustAgree(t, strings.Split(string(l), ""), func(s string) []string {
			return []string{strconv.Itoa(len(s)), string(pairs)}
		})
	})
}
