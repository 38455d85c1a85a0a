package entity_test

import (
	"fmt"
	"strconv"
	"strings"
	"testing"

	"manystrand/api"
	"manystrand/entity"
)

// feat reads a feature: a number, or an atom.
func feat(word string) api.Feat {
	if n, err := strconv.Atoi(word); err == nil {
		return api.Feat{N: n}
	}
	return api.Feat{Text: word}
}

// written writes features, so that those differ which look alike: 3, 'a', 3'a'; 0 is a place, or the atom
// without bytes.
func written(l []api.Feat) string {
	var words []string
	for _, f := range l {
		word := fmt.Sprint(f.N)
		if f.Text != "" {
			word = strings.TrimPrefix(word, "0") + "'" + f.Text + "'"
		}
		words = append(words, word)
	}
	return fmt.Sprint(words)
}

// renames reads names, as `5=7,6=8`.
func renames(word string) map[int]int {
	names := map[int]int{}
	for pair := range strings.SplitSeq(word, ",") {
		if old, name, is := strings.Cut(pair, "="); is {
			names[number(old)] = number(name)
		}
	}
	return names
}

func number(word string) int {
	n, err := strconv.Atoi(word)
	if err != nil {
		panic(word)
	}
	return n
}

// does makes a call, as `set 1 5`, and returns what comes of it. A call with an error must change nothing
// and return nothing else.
func does(t *testing.T, y *entity.Yard, call string) string {
	t.Helper()
	ahead, was := y.Copy(), dump(y)
	got, rest, err := result(y, strings.Fields(call))
	if err == api.OK {
		return got
	}
	if !entity.Same(ahead, y) || dump(y) != was {
		t.Errorf("R3: %s: error %d, but something is changed", call, err)
	}
	if rest {
		t.Errorf("R2: %s: error %d, but also %s", call, err, got)
	}
	return fmt.Sprint("error ", int(err))
}

// result returns what a call returns: as a text, whether anything of it but the error is not zero, and the
// error.
func result(y *entity.Yard, words []string) (got string, rest bool, err api.Errno) {
	var n int
	switch args := words[1:]; words[0] {
	case "make":
		n, err = y.Make(args[0], number(args[1]), number(args[2]))
	case "row":
		n, err = y.Row(number(args[0]), number(args[1]), number(args[2]), number(args[3]))
	case "get":
		n, err = y.Get(number(args[0]))
	case "set":
		n, err = y.Set(number(args[0]), number(args[1]))
	case "give":
		n, err = y.Give(number(args[0]), number(args[1]))
	case "at":
		n, err = y.At(number(args[0]), feat(args[1]))
	case "put":
		n, err = y.Put(number(args[0]), feat(args[1]), number(args[2]))
	case "remove":
		n, err = y.Remove(number(args[0]), feat(args[1]))
	case "clone":
		n, err = y.Clone(number(args[0]), number(args[1]), renames(strings.Join(args[2:], ",")))
	case "space":
		n = y.Space(number(args[0]))
	case "count":
		n = y.Count()
	default:
		return list(y, words[0], args)
	}
	return fmt.Sprint(n), n != 0, err
}

// list does a call that does not return a number alone.
func list(y *entity.Yard, word string, args []string) (got string, rest bool, err api.Errno) {
	var n, times int
	var l []int
	var feats []api.Feat
	var pairs [][2]int
	switch word {
	case "sort":
		return y.Sort(number(args[0])), false, api.OK
	case "take":
		rest, err = y.Take(number(args[0]), number(args[1]))
		return fmt.Sprint(rest), rest, err
	case "leave":
		pairs, err = y.Leave(number(args[0]))
		return fmt.Sprint(pairs), pairs != nil, err
	case "owner":
		n, times, err = y.Owner(number(args[0]))
		return fmt.Sprint(n, " ", times), n != 0 || times != 0, err
	case "waiting":
		l, err = y.Waiting(number(args[0]))
		return fmt.Sprint(l), l != nil, err
	case "keys":
		feats, err = y.Keys(number(args[0]))
		return written(feats), feats != nil, err
	case "move":
		return "done", false, y.Move(number(args[0]), number(args[1]))
	}
	panic(word)
}

// of writes all that a yard tells of a thing but the space to which it belongs.
func of(y *entity.Yard, n int) string {
	text := y.Sort(n)
	if x, err := y.Get(n); err == api.OK {
		text += fmt.Sprint(" ", x)
	}
	if thread, times, err := y.Owner(n); err == api.OK {
		waiting, err := y.Waiting(n)
		text += fmt.Sprint(" ", thread, " ", times, " ", waiting, err)
	}
	if keys, err := y.Keys(n); err == api.OK {
		for _, f := range keys {
			x, err := y.At(n, f)
			text += fmt.Sprintf(" %d%q:%d", f.N, f.Text, x)
			if err != api.OK {
				text += fmt.Sprint(" error ", int(err))
			}
		}
	}
	return text
}

// dump writes all that a yard tells.
func dump(y *entity.Yard) string {
	var text strings.Builder
	for n := range y.Count() + 2 {
		fmt.Fprintln(&text, y.Space(n), of(y, n))
	}
	return text.String()
}

// making returns a yard in which calls are done, all of them right.
func making(t *testing.T, calls ...string) *entity.Yard {
	t.Helper()
	y := entity.New()
	for _, call := range calls {
		if got := does(t, y, call); strings.HasPrefix(got, "error") {
			t.Fatalf("%s: %s", call, got)
		}
	}
	return y
}

// A script is calls with what each must do, in a new yard: `set 1 5: 4`.
type script struct {
	name  string
	lines []string
}

func play(t *testing.T, promise string, scripts []script) {
	t.Helper()
	for _, c := range scripts {
		y := entity.New()
		for i, line := range c.lines {
			call, want, _ := strings.Cut(line, ": ")
			if got := does(t, y, call); got != want {
				t.Errorf("%s: %s: line %d: %s: %s, not %s", promise, c.name, i+1, call, got, want)
			}
		}
	}
}
