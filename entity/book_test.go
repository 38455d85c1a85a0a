package entity_test

import (
	"fmt"
	"math/rand"
	"slices"
	"strings"
	"testing"

	"manystrand/api"
	"manystrand/entity"
	"manystrand/tree"
)

// A book is a second reading of the chapter: it keeps the calls that were done, as they were said, and reads
// all of them anew for each answer.
type book struct{ calls [][]string }

// made returns which call made a thing: -1, if none did.
func (b *book) made(n int) int {
	for i, words := range b.calls {
		if slices.Contains([]string{"make", "row", "clone"}, words[0]) {
			if n--; n == 0 {
				return i
			}
		}
	}
	return -1
}

func (b *book) count() int {
	n := 0
	for b.made(n+1) >= 0 {
		n++
	}
	return n
}

func (b *book) sort(n int) string {
	i := b.made(n)
	switch {
	case i < 0:
		return ""
	case b.calls[i][0] == "make":
		return b.calls[i][1]
	case b.calls[i][0] == "row":
		return "array"
	}
	return b.sort(number(b.calls[i][1]))
}

func (b *book) space(n int) int {
	i := b.made(n)
	if i < 0 {
		return -1
	}
	place := 2
	if b.calls[i][0] == "row" {
		place = 1
	}
	space := number(b.calls[i][place])
	for _, words := range b.calls[i:] {
		if words[0] == "move" && number(words[1]) == space {
			space = number(words[2])
		}
	}
	return space
}

// isOn reports whether a call is one of a thing.
func isOn(words []string, word string, n int) bool { return words[0] == word && number(words[1]) == n }

// named returns what a call of clone makes of a variable.
func named(x int, clone []string) int {
	if name, is := renames(strings.Join(clone[3:], ","))[x]; is {
		return name
	}
	return x
}

// content returns the variable of a cell, a port, a chunk ahead of a call.
func (b *book) content(n, ahead int) int {
	made := b.made(n)
	for i := ahead - 1; i > made; i-- {
		if words := b.calls[i]; isOn(words, "set", n) {
			return number(words[2])
		}
	}
	words := b.calls[made]
	if words[0] == "make" {
		return number(words[3])
	}
	return named(b.content(number(words[1]), made), words)
}

// at returns the variable of a feature ahead of a call, or 0.
func (b *book) at(n int, f api.Feat, ahead int) int {
	made := b.made(n)
	for i := ahead - 1; i > made; i-- {
		words := b.calls[i]
		if isOn(words, "put", n) && feat(words[2]) == f {
			return number(words[3])
		}
		if isOn(words, "remove", n) && feat(words[2]) == f {
			return 0
		}
	}
	words := b.calls[made]
	switch {
	case words[0] == "row" && f.Text == "" && number(words[2]) <= f.N && f.N <= number(words[3]):
		return number(words[4])
	case words[0] == "clone" && b.at(number(words[1]), f, made) > 0:
		return named(b.at(number(words[1]), f, made), words)
	}
	return 0
}

// keys returns the features of a dict or an array, of all those that were ever said.
func (b *book) keys(n int) (l []api.Feat) {
	said := map[api.Feat]bool{}
	for _, words := range b.calls {
		if words[0] == "put" {
			said[feat(words[2])] = true
		}
		if words[0] == "row" {
			for place := number(words[2]); place <= number(words[3]); place++ {
				said[api.Feat{N: place}] = true
			}
		}
	}
	for f := range said {
		if b.at(n, f, len(b.calls)) > 0 {
			l = append(l, f)
		}
	}
	isArray := b.sort(n) == "array"
	slices.SortFunc(l, func(p, q api.Feat) int {
		if isArray && p.N < q.N || !isArray && tree.Less(p, q) {
			return -1
		}
		return 1
	})
	return l
}

// claims returns who wants a lock: the owner as often as it took it, then those that wait.
func (b *book) claims(n int) (l []int) {
	for _, words := range b.calls[b.made(n):] {
		isMine := func(thread int) bool { return thread == number(words[1]) }
		switch {
		case isOn(words, "take", n):
			if thread := number(words[2]); len(l) == 0 || l[0] == thread {
				l = append([]int{thread}, l...)
			} else if !slices.Contains(l, thread) {
				l = append(l, thread)
			}
		case isOn(words, "give", n):
			l = l[1:]
		case words[0] == "leave":
			l = slices.DeleteFunc(slices.Clone(l), isMine)
		}
	}
	return l
}

func (b *book) owner(n int) (thread, times int, waiting []int) {
	l := b.claims(n)
	for times < len(l) && l[times] == l[0] {
		times++
	}
	if times > 0 {
		thread = l[0]
	}
	return thread, times, l[times:]
}

// variables returns all that a thing has.
func (b *book) variables(n int) (l []int) {
	switch b.sort(n) {
	case "cell", "port", "chunk":
		return []int{b.content(n, len(b.calls))}
	case "dict", "array":
		for _, f := range b.keys(n) {
			l = append(l, b.at(n, f, len(b.calls)))
		}
	}
	return l
}

// sortsOf returns the sorts that a call may be of.
func sortsOf(word string) string {
	switch word {
	case "get":
		return "cell port chunk"
	case "set":
		return "cell port"
	case "take", "give", "owner", "waiting":
		return "lock"
	case "at", "put", "keys":
		return "dict array"
	case "remove":
		return "dict"
	case "clone":
		return "name chunk cell port lock dict array"
	}
	return ""
}

// isWrong reports whether a call has an argument that is none.
func (b *book) isWrong(words []string) bool {
	args := words[1:]
	if sorts := sortsOf(words[0]); sorts != "" {
		sort := b.sort(number(args[0]))
		if sort == "" || !slices.Contains(strings.Fields(sorts), sort) {
			return true
		}
		if sort == "dict" && strings.Contains("at put remove", words[0]) && !tree.IsFeat(feat(args[1])) {
			return true
		}
	}
	switch words[0] {
	case "make":
		isSort := slices.Contains(strings.Fields(sortsOf("clone")), args[0]) && args[0] != "array"
		return !isSort || number(args[1]) < 0 || strings.Contains("cell port chunk", args[0]) && number(args[2]) < 1
	case "row":
		places := number(args[2]) - number(args[1]) + 1
		return number(args[0]) < 0 || places < 0 || places > api.MaxFeat || number(args[3]) < 1
	case "set", "take", "give":
		return number(args[1]) < 1
	case "leave":
		return number(args[0]) < 1
	case "put":
		return number(args[2]) < 1
	case "move":
		return number(args[0]) < 0 || number(args[1]) < 0
	case "clone":
		isNone := func(x int) bool { return named(x, words) < 1 }
		return number(args[1]) < 0 || slices.ContainsFunc(b.variables(number(args[0])), isNone)
	}
	return false
}

// does does a call, and returns what must come of it.
func (b *book) does(call string) string {
	words := strings.Fields(call)
	if b.isWrong(words) {
		return told(api.ErrArg)
	}
	ahead := len(b.calls)
	n := 0
	if len(words) > 1 && words[0] != "make" {
		n = number(words[1])
	}
	switch words[0] {
	case "count":
		return told(api.OK, b.count())
	case "sort":
		return b.sort(n)
	case "space":
		return told(api.OK, b.space(n))
	case "get":
		return told(api.OK, b.content(n, ahead))
	case "keys":
		return written(b.keys(n))
	case "owner":
		thread, times, _ := b.owner(n)
		return told(api.OK, thread, " ", times)
	case "waiting":
		_, _, waiting := b.owner(n)
		return told(api.OK, waiting)
	case "at":
		if x := b.at(n, feat(words[2]), ahead); x > 0 {
			return told(api.OK, x)
		}
		return told(api.ErrNone)
	}
	return b.changes(words, n)
}

// changes does a call that may change something.
func (b *book) changes(words []string, n int) string {
	ahead := len(b.calls)
	switch {
	case words[0] == "give" && !slices.Equal(b.claims(n)[:min(1, len(b.claims(n)))], []int{number(words[2])}):
		return told(api.ErrOwner)
	case words[0] == "remove" && b.at(n, feat(words[2]), ahead) == 0:
		return told(api.ErrNone)
	case words[0] == "put" && b.sort(n) == "array" && b.at(n, feat(words[2]), ahead) == 0:
		return told(api.ErrNone)
	}
	was := &book{slices.Clone(b.calls)}
	b.calls = append(b.calls, words)
	switch words[0] {
	case "make", "row", "clone":
		return told(api.OK, b.count())
	case "set":
		return told(api.OK, b.content(n, ahead))
	case "put", "remove":
		return told(api.OK, b.at(n, feat(words[2]), ahead))
	case "take":
		thread, _, _ := b.owner(n)
		return told(api.OK, thread == number(words[2]))
	case "give":
		next, _, _ := b.owner(n)
		if next == number(words[2]) {
			next = 0
		}
		return told(api.OK, next)
	case "leave":
		return told(api.OK, was.passed(b, n))
	}
	return "done"
}

// passed returns the locks that a thread owns here, and who owns each in a later book.
func (b *book) passed(later *book, thread int) (l [][2]int) {
	for n := 1; n <= b.count(); n++ {
		if b.sort(n) != "lock" {
			continue
		}
		if owner, _, _ := b.owner(n); owner == thread {
			next, _, _ := later.owner(n)
			l = append(l, [2]int{n, next})
		}
	}
	return l
}

func told(err api.Errno, rest ...any) string {
	if err != api.OK {
		return fmt.Sprint("error ", int(err))
	}
	return fmt.Sprint(rest...)
}

// A maker makes random calls.
type maker struct{ *rand.Rand }

func newMaker(seed int64) maker { return maker{rand.New(rand.NewSource(seed))} }

func pick[T any](m maker, l ...T) T { return l[m.Intn(len(l))] }

// features are those that the random calls say.
func features() []string {
	return []string{"a", "b", "B", "ab", "0", "1", "2", "3", "-1", "10", "1000", "1001"}
}

// thing returns the number of a thing, mostly of one that a call may be of; or of none.
func (m maker) thing(y *entity.Yard, word string) int {
	n := 0
	for range 20 {
		n = m.Intn(y.Count() + 2)
		if slices.Contains(strings.Fields(sortsOf(word)), y.Sort(n)) && m.Intn(10) > 0 {
			break
		}
	}
	return n
}

// call returns a call that may change something.
func (m maker) call(y *entity.Yard) string {
	low, x, thread := m.Intn(5)-2, m.variable(), pick(m, m.Intn(5), 1+m.Intn(4), 1+m.Intn(4))
	word := pick(m, "make", "make", "make", "row", "set", "take", "take", "take", "give", "give", "leave", "put", "put", "put", "remove", "move", "clone", "clone")
	switch n := m.thing(y, word); word {
	case "make":
		return fmt.Sprint("make ", pick(m, "name", "chunk", "cell", "port", "lock", "lock", "dict", "dict", "array"), " ", m.space(), " ", x)
	case "row":
		return fmt.Sprint("row ", m.space(), " ", low, " ", low+m.Intn(6)-2, " ", x)
	case "set":
		return fmt.Sprint("set ", n, " ", x)
	case "take", "give":
		return fmt.Sprint(word, " ", n, " ", thread)
	case "leave":
		return fmt.Sprint("leave ", thread)
	case "put":
		return fmt.Sprint("put ", n, " ", pick(m, features()...), " ", x)
	case "remove":
		return fmt.Sprint("remove ", n, " ", pick(m, features()...))
	case "move":
		return fmt.Sprint("move ", m.space(), " ", m.space())
	default:
		return fmt.Sprint("clone ", n, " ", m.space(), " ", m.variable(), "=", m.variable(), ",", m.variable(), "=", m.variable())
	}
}

func (m maker) variable() int { return pick(m, m.Intn(5), 1+m.Intn(4), 1+m.Intn(4)) }

func (m maker) space() int { return pick(m, m.Intn(4)-1, m.Intn(3), m.Intn(3)) }

// asking returns calls that change nothing.
func asking(count int) (l []string) {
	l = append(l, "count")
	for n := range count + 2 {
		for _, word := range []string{"sort", "space", "get", "keys", "owner", "waiting"} {
			l = append(l, fmt.Sprint(word, " ", n))
		}
		for _, f := range features() {
			l = append(l, fmt.Sprint("at ", n, " ", f))
		}
	}
	return l
}

// TestByTheBook: a yard does and tells what the second reading does and tells.
func TestByTheBook(t *testing.T) {
	m := newMaker(1101)
	seen := map[string]int{}
	for range 800 {
		y, b := entity.New(), &book{}
		for range 40 {
			call := m.call(y)
			got, want := does(t, y, call), b.does(call)
			if got != want {
				t.Fatalf("P11.1 to P11.4: %v: %s: %s, not %s", b.calls, call, got, want)
			}
			word, _, _ := strings.Cut(call, " ")
			seen[word]++
			if strings.HasPrefix(got, "error") {
				seen[word+" "+got]++
			}
		}
		for _, call := range asking(y.Count()) {
			if got, want := does(t, y, call), b.does(call); got != want {
				t.Fatalf("P11.1 to P11.4: %v: %s: %s, not %s", b.calls, call, got, want)
			}
		}
	}
	for _, what := range []string{
		"make", "make error 2", "row", "row error 2", "set", "set error 2", "take", "take error 2", "give", "give error 2", "give error 110",
		"leave", "leave error 2", "put", "put error 2", "put error 5", "remove", "remove error 2", "remove error 5", "move", "move error 2",
		"clone", "clone error 2",
	} {
		if seen[what] < 100 {
			t.Errorf("only %d times: %s", seen[what], what)
		}
	}
}
