package simf_test

import (
	"math/rand/v2"
	"regexp"
	"slices"
	"strconv"
	"strings"
	"testing"

	"fettle/api"
	"fettle/simf"
)

// files are all calls of the layer.
type files interface {
	Make(name string, b []byte) (int, api.Errno)
	Put(name string, b []byte) (int, api.Errno)
	Read(name string) ([]byte, int, api.Errno)
	Append(name string, b []byte, g []api.Guard) (int, api.Errno)
	Move(from, to string, g []api.Guard) (int, api.Errno)
	Drop(name string, g []api.Guard) api.Errno
	Stamp(name string) int
	List(dir string) []string
	Used() int
	Room(n int)
	Cut(n int)
}

// other follows the words of promise 9.1 in another form: a row of files, in no order, with their bytes as text; the cuts that are to come are none or one.
type other struct {
	row         []entry
	room, given int
	cuts        []int
}

// entry is a file of such a row.
type entry struct {
	name, text string
	stamp      int
}

// newOther tells files in that form.
func newOther(room int) *other {
	o := &other{}
	o.Room(room)
	return o
}

// isFile is what a file's name looks like.
var isFile = regexp.MustCompile(`^[a-z0-9._-]{1,16}(/[a-z0-9._-]{1,16})?$`)

// errno tells e where it applies.
func errno(applies bool, e api.Errno) api.Errno {
	if applies {
		return e
	}
	return api.OK
}

// first tells the first error of l.
func first(l ...api.Errno) api.Errno {
	for _, e := range l {
		if e != api.OK {
			return e
		}
	}
	return api.OK
}

func (o *other) at(s string) int {
	return slices.IndexFunc(o.row, func(x entry) bool { return x.name == s })
}

func (o *other) text(s string) string {
	if o.at(s) < 0 {
		return ""
	}
	return o.row[o.at(s)].text
}

func (o *other) take(s string) {
	o.row = slices.DeleteFunc(o.row, func(x entry) bool { return x.name == s })
}

func (o *other) set(s, text string) int {
	o.take(s)
	o.given++
	o.row = append([]entry{{s, text, o.given}}, o.row...)
	return o.given
}

func (o *other) noName(s string) api.Errno {
	return errno(!isFile.MatchString(s), api.ErrName)
}

func (o *other) none(s string) api.Errno {
	return errno(o.at(s) < 0, api.ErrNone)
}

func (o *other) broken(g []api.Guard) api.Errno {
	for _, x := range g {
		if !slices.ContainsFunc(o.row, func(y entry) bool { return y.name == x.Name && y.stamp == x.Stamp }) {
			return api.ErrGuard
		}
	}
	return api.OK
}

func (o *other) full(s string, n int) api.Errno {
	would := o.Used() - len(o.text(s)) + n
	return errno(would > o.room && would > o.Used(), api.ErrSpace)
}

func (o *other) Make(s string, b []byte) (int, api.Errno) {
	if e := first(o.noName(s), errno(o.at(s) >= 0, api.ErrThere), o.full(s, len(b))); e != api.OK {
		return 0, e
	}
	return o.set(s, string(b)), api.OK
}

func (o *other) Put(s string, b []byte) (int, api.Errno) {
	if e := first(o.noName(s), o.full(s, len(b))); e != api.OK {
		return 0, e
	}
	return o.set(s, string(b)), api.OK
}

func (o *other) Read(s string) ([]byte, int, api.Errno) {
	if e := first(o.noName(s), o.none(s)); e != api.OK {
		return nil, 0, e
	}
	return []byte(o.text(s)), o.Stamp(s), api.OK
}

func (o *other) Append(s string, b []byte, g []api.Guard) (int, api.Errno) {
	if e := first(o.noName(s), o.broken(g)); e != api.OK {
		return 0, e
	}
	goesIn, e := len(b), api.OK
	if len(o.cuts) > 0 {
		goesIn, e = min(goesIn, o.cuts[0]), api.ErrDead
		o.cuts = nil
	} else {
		for goesIn > 0 && o.Used()+goesIn > o.room {
			goesIn, e = goesIn-1, api.ErrSpace
		}
	}
	stamp := 0
	if goesIn > 0 || e == api.OK {
		stamp = o.set(s, o.text(s)+string(b[:goesIn]))
	}
	if e != api.OK {
		return 0, e
	}
	return stamp, api.OK
}

func (o *other) Move(from, to string, g []api.Guard) (int, api.Errno) {
	if e := first(o.noName(from), o.noName(to), errno(from == to, api.ErrName), o.broken(g), o.none(from)); e != api.OK {
		return 0, e
	}
	text := o.text(from)
	o.take(from)
	return o.set(to, text), api.OK
}

func (o *other) Drop(s string, g []api.Guard) api.Errno {
	e := first(o.noName(s), o.broken(g), o.none(s))
	if e == api.OK {
		o.take(s)
	}
	return e
}

func (o *other) Stamp(s string) int {
	if o.at(s) < 0 {
		return 0
	}
	return o.row[o.at(s)].stamp
}

func (o *other) List(dir string) []string {
	var l []string
	for _, x := range o.row {
		if dir == "" && !strings.Contains(x.name, "/") || dir != "" && strings.HasPrefix(x.name, dir+"/") {
			l = append(l, x.name)
		}
	}
	slices.Sort(l)
	return l
}

func (o *other) Used() int {
	n := 0
	for _, x := range o.row {
		n += len(x.text)
	}
	return n
}

func (o *other) Room(n int) {
	o.room = min(max(n, 0), 1<<30)
}

func (o *other) Cut(n int) {
	o.cuts = []int{max(n, 0)}
}

// errors are the errors of this layer, by their numbers.
var errors = []string{"OK", "ErrName", "ErrSpace", "ErrThere", "ErrNone", "ErrGuard", "", "ErrDead"}

// answer tells what a call answered: a stamp, or an error, and what should not stand beside it.
func answer(stamp int, e api.Errno) string {
	switch {
	case e == api.OK:
		return strconv.Itoa(stamp)
	case stamp != 0:
		return errors[e] + " beside " + strconv.Itoa(stamp)
	}
	return errors[e]
}

// say has a call made, by its words, parted by a blank each, and tells what it answers. Two single quotes are a text of no bytes; guards, NAME@STAMP, are behind all else.
func say(f files, line string) string {
	w := strings.Split(line, " ")
	for i := range w {
		w[i] = strings.ReplaceAll(w[i], "''", "")
	}
	w = append(w, make([]string, max(3-len(w), 0))...)
	n, _ := strconv.Atoi(w[1])
	switch w[0] {
	case "make":
		return answer(f.Make(w[1], []byte(w[2])))
	case "put":
		return answer(f.Put(w[1], []byte(w[2])))
	case "read":
		b, stamp, e := f.Read(w[1])
		return strings.TrimSpace(answer(stamp, e) + " " + string(b))
	case "append":
		return answer(f.Append(w[1], []byte(w[2]), guards(w[3:])))
	case "move":
		return answer(f.Move(w[1], w[2], guards(w[3:])))
	case "drop":
		return errors[f.Drop(w[1], guards(w[2:]))]
	case "stamp":
		return strconv.Itoa(f.Stamp(w[1]))
	case "list":
		return strings.Join(f.List(w[1]), " ")
	case "used":
		return strconv.Itoa(f.Used())
	case "room":
		f.Room(n)
		return "OK"
	case "cut":
		f.Cut(n)
		return "OK"
	}
	return "no such call"
}

// guards tells the guards that words are.
func guards(words []string) []api.Guard {
	var g []api.Guard
	for _, s := range words {
		if file, number, ok := strings.Cut(s, "@"); ok {
			stamp, _ := strconv.Atoi(number)
			g = append(g, api.Guard{Name: file, Stamp: stamp})
		}
	}
	return g
}

// look tells all files of f in the folders dirs and in none, as far as calls tell them.
func look(f files, dirs ...string) string {
	var l []string
	for _, dir := range append(dirs, "") {
		for _, s := range f.List(dir) {
			l = append(l, s+"@"+strconv.Itoa(f.Stamp(s))+"="+say(f, "read "+s))
		}
	}
	return strings.Join(append(l, strconv.Itoa(f.Used())), "\n")
}

// mustTell has the calls made of a new FS of room, a line each, with what it is to answer behind `->`; the other form is to answer the same.
func mustTell(t *testing.T, room int, lines string) *simf.FS {
	t.Helper()
	f, o := simf.New(room), newOther(room)
	mustGoOn(t, f, lines)
	mustGoOn(t, o, lines)
	mustAgree(t, f, o, lines)
	return f
}

// mustGoOn has the calls made of f, as mustTell.
func mustGoOn(t *testing.T, f files, lines string) {
	t.Helper()
	for row := range strings.Lines(strings.TrimSpace(lines)) {
		line, want, _ := strings.Cut(strings.TrimSpace(row), " ->")
		if got := say(f, line); got != strings.TrimSpace(want) {
			t.Errorf("%T: %s -> %s, want%s", f, line, got, want)
		}
	}
}

// mustAgree holds all files of f to those of o.
func mustAgree(t *testing.T, f, o files, what string) {
	t.Helper()
	if got, want := look(f, "d", "e"), look(o, "d", "e"); got != want {
		t.Fatalf("behind %s\nthere is\n%s\nwant\n%s", what, got, want)
	}
}

// mustSayTheSame has each of lines said to both forms, and holds the answers to each other, and the files behind each.
func mustSayTheSame(t *testing.T, room int, lines []string) {
	t.Helper()
	f, o := simf.New(room), newOther(room)
	for i, line := range lines {
		got, want := say(f, line), say(o, line)
		if got != want {
			t.Fatalf("room %d, behind %q\n%s -> %s, want %s", room, lines[:i], line, got, want)
		}
		mustAgree(t, f, o, strings.Join(lines[:i+1], "\n"))
	}
}

// Promise 9.1: all rows of three calls, behind some beginnings, where there is much room and little.
func TestAllSmall(t *testing.T) {
	calls := []string{
		"make a ''", "make b xyz", "put a p", "put a pqrstu", "put d/e ''",
		"append a kl", "append a '' a@1", "append b mno d/e@2", "append A x",
		"move a b", "move b a a@1", "move d/e a b@2 a@1", "move a a", "move b d/e b@3",
		"drop a", "drop b b@2", "drop d/e c@0",
		"room 0", "room 5", "cut 0", "cut 2",
	}
	for _, begin := range [][]string{
		nil,
		{"make a 12"},
		{"make a 12", "make b 3", "make d/e 4"},
		{"put b 1", "put d/e 2", "put b 3"},
		{"make a 12", "cut 1"},
	} {
		for _, room := range []int{0, 4, 100} {
			for _, x := range calls {
				for _, y := range calls {
					for _, z := range calls {
						mustSayTheSame(t, room, append(slices.Clone(begin), x, y, z))
					}
				}
			}
		}
	}
}

// Promise 9.1: many calls of any kind, one behind the other.
func TestAnyCalls(t *testing.T) {
	r := rand.New(rand.NewPCG(9, 1))
	for range 300 {
		var lines []string
		for range 1 + r.IntN(80) {
			lines = append(lines, anyCall(r))
		}
		mustSayTheSame(t, r.IntN(40), lines)
	}
}

// anyCall tells a call of any kind, with names of which some are wrong, and guards of which some may hold.
func anyCall(r *rand.Rand) string {
	names := []string{"a", "b", "c", "d/a", "d/b", "e/a", "d", "A", "a/b/c", "''"}
	kinds := []string{"make", "put", "read", "append", "append", "append", "move", "move", "drop", "stamp", "list", "used", "room", "cut"}
	file := func() string { return names[r.IntN(1+r.IntN(len(names)))] }
	line := kinds[r.IntN(len(kinds))]
	switch line {
	case "make", "put":
		return line + " " + file() + " " + strings.Repeat("x", r.IntN(9))
	case "append":
		line += " " + file() + " " + strings.Repeat("y", r.IntN(9))
	case "move":
		line += " " + file() + " " + file()
	case "drop":
		line += " " + file()
	case "room", "cut":
		return line + " " + strconv.Itoa(r.IntN(40)-3)
	default:
		return line + " " + file()
	}
	for range r.IntN(3) * r.IntN(2) {
		line += " " + file() + "@" + strconv.Itoa(r.IntN(1+r.IntN(30)))
	}
	return line
}

// Promises 9.1 and 9.3: no call panics and each ends, whatever it is given, and all are what the words say.
func FuzzCalls(f *testing.F) {
	f.Add(10, "make a abc\nappend a defghijk a@1\nread a\ncut 2\nappend a xyz\nlist ''")
	f.Add(-1, "put d/e ''\nmove d/e d d/e@1\ndrop d d@2\nstamp d\nused")
	f.Add(1<<40, "append tmp/1.2.3 \xff\x00\nroom -5\ndrop A\nmove a a\nlist tmp/")
	f.Fuzz(func(t *testing.T, room int, text string) {
		lines := strings.Split(text, "\n")
		mustSayTheSame(t, room, lines[:min(len(lines), 40)])
	})
}
