package entity_test

import (
	"fmt"
	"maps"
	"math"
	"strings"
	"testing"

	"manystrand/api"
	"manystrand/entity"
)

// numbers that no thing, no variable and no thread has.
var noNumbers = []int{0, -1, math.MinInt}

func TestMake(t *testing.T) {
	play(t, "P11.1", []script{
		{"numbered over all sorts", []string{"count: 0", "make name 0 0: 1", "make cell 0 5: 2", "make dict 3 0: 3", "row 2 1 3 5: 4", "make port 0 5: 5", "make lock 0 0: 6", "make chunk 0 7: 7", "count: 7"}},
		{"what it is", []string{"make cell 3 5: 1", "sort 1: cell", "space 1: 3", "get 1: 5", "make lock 0 5: 2", "sort 2: lock", "space 2: 0", "owner 2: 0 0", "waiting 2: []", "make dict 4 5: 3", "sort 3: dict", "keys 3: []", "make name 9 0: 4", "sort 4: name", "space 4: 9"}},
		{"of none", []string{"sort 1: ", "space 1: -1", "make cell 0 5: 1", "sort 0: ", "space 0: -1", "sort 2: ", "space 2: -1", "sort -1: ", "space -1: -1"}},
		{"another sort", []string{"make array 0 5: error 2", "make proc 0 5: error 2", "make space 0 5: error 2", "make dead 0 5: error 2", "make int 0 5: error 2", "make Cell 0 5: error 2", "count: 0", "make cell 0 5: 1"}},
		{"a space below 0", []string{"make cell -1 5: error 2", "make name -1 5: error 2", "make dict -1 5: error 2", "make lock -1 5: error 2", "count: 0"}},
		{"no variable", []string{"make cell 0 0: error 2", "make port 0 0: error 2", "make chunk 0 0: error 2", "make cell 0 -1: error 2", "make port 0 -5: error 2", "make chunk 0 -5: error 2", "count: 0"}},
		{"not looked at", []string{"make name 0 -1: 1", "make lock 0 -1: 2", "make dict 0 -1: 3"}},
		{"any numbers", []string{fmt.Sprint("make cell ", math.MaxInt, " ", math.MaxInt, ": 1"), fmt.Sprint("get 1: ", math.MaxInt), fmt.Sprint("space 1: ", math.MaxInt)}},
	})
	if n, err := entity.New().Make("", 0, 5); n != 0 || err != api.ErrArg {
		t.Errorf("P11.1: a sort without bytes: %d, %d", n, err)
	}
}

func TestRow(t *testing.T) {
	const most, least = math.MaxInt, math.MinInt
	play(t, "P11.1", []script{
		{"its places", []string{"row 2 3 5 7: 1", "sort 1: array", "space 1: 2", "keys 1: [3 4 5]", "at 1 3: 7", "at 1 5: 7"}},
		{"one place", []string{"row 0 4 4 7: 1", "keys 1: [4]"}},
		{"no place", []string{"row 0 1 0 7: 1", "keys 1: []", "row 0 -5 -6 7: 2", "keys 2: []", "sort 2: array"}},
		{"places from 0 and below", []string{"row 0 -2 1 7: 1", "keys 1: [-2 -1 0 1]"}},
		{"less than none", []string{"row 0 1 -1 7: error 2", "row 0 5 3 7: error 2", fmt.Sprint("row 0 ", most, " ", least, " 7: error 2"), "count: 0"}},
		{"as many as may be", []string{"row 0 1 1000 7: 1", "row 0 1 1001 7: error 2", "row 0 0 999 7: 2", "row 0 0 1000 7: error 2", "row 0 -500 499 7: 3", "row 0 -500 500 7: error 2", "at 3 499: 7", "at 3 -500: 7"}},
		{"more than an int holds", []string{fmt.Sprint("row 0 ", least, " ", most, " 7: error 2"), fmt.Sprint("row 0 ", least, " ", most-1, " 7: error 2"), fmt.Sprint("row 0 -2 ", most, " 7: error 2"), fmt.Sprint("row 0 ", least, " 2 7: error 2"), fmt.Sprint("row 0 ", least+1, " ", most, " 7: error 2"), "count: 0"}},
		{"the greatest places", []string{fmt.Sprint("row 0 ", most-1, " ", most, " 7: 1"), fmt.Sprint("keys 1: [", most-1, " ", most, "]"), fmt.Sprint("at 1 ", most, ": 7"), "at 1 -1: error 5", fmt.Sprint("at 1 ", least, ": error 5"), fmt.Sprint("row 0 ", most, " ", most-1, " 7: 2")}},
		{"the least places", []string{fmt.Sprint("row 0 ", least, " ", least+1, " 7: 1"), fmt.Sprint("keys 1: [", least, " ", least+1, "]"), fmt.Sprint("at 1 ", least, ": 7"), fmt.Sprint("at 1 ", most, ": error 5"), "at 1 0: error 5", fmt.Sprint("row 0 ", least+1, " ", least, " 7: 2")}},
		{"no variable, no space", []string{"row 0 1 3 0: error 2", "row 0 1 3 -1: error 2", "row 0 1 0 0: error 2", "row -1 1 3 7: error 2", "row -1 1 0 7: error 2", "count: 0"}},
	})
}

func TestGetAndSet(t *testing.T) {
	play(t, "P11.2", []script{
		{"a cell", []string{"make cell 0 5: 1", "get 1: 5", "set 1 6: 5", "get 1: 6", "set 1 6: 6", "set 1 1: 6", "get 1: 1"}},
		{"a port", []string{"make port 0 5: 1", "get 1: 5", "set 1 6: 5", "get 1: 6"}},
		{"a chunk", []string{"make chunk 0 5: 1", "get 1: 5", "set 1 6: error 2", "get 1: 5"}},
		{"no variable", []string{"make cell 0 5: 1", "make port 0 6: 2", "set 1 0: error 2", "set 2 0: error 2", "set 1 -1: error 2", "get 1: 5", "get 2: 6"}},
		{"of another sort", []string{"make name 0 5: 1", "make lock 0 5: 2", "make dict 0 5: 3", "row 0 1 3 5: 4", "get 1: error 2", "get 2: error 2", "get 3: error 2", "get 4: error 2", "set 1 5: error 2", "set 2 5: error 2", "set 3 5: error 2", "set 4 5: error 2"}},
	})
}

// TestNoThing: numbers that no thing has.
func TestNoThing(t *testing.T) {
	y := making(t, "make cell 0 5", "make dict 0 0", "make lock 0 0")
	for _, n := range append(noNumbers, 4, math.MaxInt) {
		for _, call := range []string{"get %d", "set %d 5", "take %d 1", "give %d 1", "owner %d", "waiting %d", "at %d a", "put %d a 5", "remove %d a", "keys %d", "clone %d 0"} {
			call = fmt.Sprintf(call, n)
			if got := does(t, y, call); got != "error 2" {
				t.Errorf("P11.1: %s: %s", call, got)
			}
		}
		if sort, space := y.Sort(n), y.Space(n); sort != "" || space != -1 {
			t.Errorf("P11.1: no thing %d: %q, %d", n, sort, space)
		}
	}
}

// TestNone: yards that are nil or zero (R2, R7).
func TestNone(t *testing.T) {
	for _, y := range []*entity.Yard{nil, {}} {
		for _, call := range []string{
			"make cell 0 5", "make cell -1 0", "row 0 1 3 5", "row -1 5 1 0", "get 1", "set 1 5", "set 0 0", "take 1 1", "take 0 0", "give 1 1", "give 0 0",
			"leave 1", "leave 0", "owner 1", "waiting 1", "at 1 a", "at 0 -1", "put 1 a 5", "put 0 -1 0", "remove 1 a", "remove 0 -1", "keys 1", "move 0 1",
			"move -1 -1", "clone 1 0", "clone 0 -1",
		} {
			if got, rest, err := result(y, strings.Fields(call)); err != api.ErrNil || rest {
				t.Errorf("R7: %s of no yard: %s, %d", call, got, err)
			}
		}
		if y.Sort(1) != "" || y.Space(1) != 0 || y.Space(0) != 0 || y.Count() != 0 || y.Copy() != nil {
			t.Error("R7: no yard has something")
		}
		if entity.Same(y, entity.New()) || entity.Same(entity.New(), y) || entity.Same(y, y) || entity.Same(y, nil) {
			t.Error("R7: no yard is the same as one")
		}
	}
}

func TestMove(t *testing.T) {
	play(t, "P11.4", []script{
		{"all of one space", []string{"make cell 1 5: 1", "make dict 2 0: 2", "row 1 1 3 5: 3", "make lock 0 0: 4", "move 1 2: done", "space 1: 2", "space 2: 2", "space 3: 2", "space 4: 0", "move 2 0: done", "space 1: 0", "space 2: 0", "space 3: 0", "space 4: 0"}},
		{"from the root", []string{"make name 0 0: 1", "move 0 7: done", "space 1: 7", "space 0: -1", "make name 0 0: 2", "space 2: 0", "space 3: -1"}},
		{"into itself", []string{"make cell 1 5: 1", "move 1 1: done", "space 1: 1"}},
		{"none of it", []string{"make cell 1 5: 1", "move 3 4: done", "space 1: 1"}},
		{"only the space", []string{"make lock 1 0: 1", "take 1 5: true", "take 1 6: false", "take 1 5: true", "move 1 2: done", "owner 1: 5 2", "waiting 1: [6]"}},
		{"a space below 0", []string{"make cell 1 5: 1", "move -1 1: error 2", "move 1 -1: error 2", "move -1 -1: error 2", "space 1: 1"}},
	})
}

func TestClone(t *testing.T) {
	play(t, "P11.4", []script{
		{"a cell", []string{"make cell 1 5: 1", "clone 1 2 5=7: 2", "sort 2: cell", "space 2: 2", "get 2: 7", "get 1: 5", "set 2 8: 7", "get 1: 5", "space 1: 1"}},
		{"a port, a chunk", []string{"make port 0 5: 1", "make chunk 0 6: 2", "clone 1 0 5=7,6=8: 3", "clone 2 0 5=7,6=8: 4", "sort 3: port", "get 3: 7", "sort 4: chunk", "get 4: 8"}},
		{"those without a name stay", []string{"make cell 0 5: 1", "clone 1 0: 2", "get 2: 5", "clone 1 0 6=7: 3", "get 3: 5"}},
		{"one name after the other is not meant", []string{"make cell 0 5: 1", "clone 1 0 5=6,6=7,7=5: 2", "get 2: 6"}},
		{"a name is a new one", []string{"make name 1 0: 1", "clone 1 2 0=7: 2", "sort 2: name", "space 2: 2", "get 2: error 2"}},
		{"a lock is free", []string{"make lock 1 0: 1", "take 1 5: true", "take 1 5: true", "take 1 6: false", "clone 1 2 5=7,6=8: 2", "sort 2: lock", "owner 2: 0 0", "waiting 2: []", "take 2 6: true", "owner 1: 5 2", "waiting 1: [6]"}},
		{"a dict", []string{"make dict 0 0: 1", "put 1 a 5: 0", "put 1 2 6: 0", "put 1 b 5: 0", "clone 1 3 5=7: 2", "keys 2: [2 'a' 'b']", "at 2 a: 7", "at 2 b: 7", "at 2 2: 6", "put 2 a 9: 7", "remove 2 2: 6", "put 2 c 9: 0", "keys 1: [2 'a' 'b']", "at 1 a: 5"}},
		{"an array", []string{"row 0 -1 1 5: 1", "put 1 0 6: 5", "clone 1 3 5=7,6=5: 2", "sort 2: array", "keys 2: [-1 0 1]", "at 2 -1: 7", "at 2 0: 5", "at 2 1: 7", "put 2 1 9: 7", "at 1 1: 5", "put 2 2 9: error 5"}},
		{"an array without a place", []string{"row 0 1 0 5: 1", "clone 1 0 5=7: 2", "sort 2: array", "keys 2: []"}},
		{"a clone of a clone", []string{"make cell 0 5: 1", "clone 1 0 5=6: 2", "clone 2 0 6=7: 3", "get 3: 7", "get 2: 6"}},
		{"a space below 0", []string{"make cell 0 5: 1", "clone 1 -1: error 2", "clone 2 -1: error 2", "count: 1"}},
		{"a name that is no variable", []string{"make cell 0 5: 1", "make dict 0 0: 2", "put 2 a 6: 0", "clone 1 0 5=0: error 2", "clone 1 0 5=-3: error 2", "clone 2 0 6=0: error 2", "row 0 1 3 5: 3", "clone 3 0 5=0: error 2", "count: 3", "clone 1 0 6=0: 4", "get 4: 5"}},
		{"a name for what is no variable", []string{"make name 0 0: 1", "make lock 0 0: 2", "make dict 0 0: 3", "clone 1 0 0=-7: 4", "clone 2 0 0=7: 5", "clone 3 0 0=7: 6", "owner 5: 0 0", "keys 6: []"}},
	})
	names := []string{"make name 0 0", "clone 1 0 0=7"}
	if !entity.Same(making(t, names...), making(t, names[0], names[0])) {
		t.Error("P11.4: the clone of a name has a variable")
	}
}

// TestNamesStay: Clone neither changes nor keeps the names.
func TestNamesStay(t *testing.T) {
	y := making(t, "make dict 0 0", "put 1 a 5", "put 1 b 6")
	names := map[int]int{5: 7, 6: 5}
	was := maps.Clone(names)
	if n, err := y.Clone(1, 0, names); n != 2 || err != api.OK || !maps.Equal(names, was) {
		t.Fatalf("R4: %d, %d, %v", n, err, names)
	}
	if n, err := y.Clone(1, 0, nil); n != 3 || err != api.OK {
		t.Fatalf("P11.4: without names: %d, %d", n, err)
	}
	names[5], names[7] = 9, 9
	if got := does(t, y, "at 2 a"); got != "7" {
		t.Errorf("R4: the names are kept: %s", got)
	}
	if got := does(t, y, "at 3 a"); got != "5" {
		t.Errorf("P11.4: without names: %s", got)
	}
}

func TestCount(t *testing.T) {
	play(t, "P11.4", []script{
		{"all that are made", []string{"count: 0", "make cell 0 5: 1", "count: 1", "row 0 1 0 5: 2", "count: 2", "clone 1 0: 3", "count: 3", "make cell 0 0: error 2", "count: 3"}},
	})
}

// some returns a yard with a thing of each sort.
func some(t *testing.T) *entity.Yard {
	t.Helper()
	return making(t, "make name 0 0", "make chunk 1 5", "make cell 2 6", "make port 1 7", "make lock 0 0", "take 5 1", "take 5 2", "take 5 3", "make dict 1 0", "put 6 a 8", "put 6 3 9", "row 2 1 3 5")
}

func TestCopy(t *testing.T) {
	y := some(t)
	c, was := y.Copy(), dump(y)
	if !entity.Same(y, c) || dump(c) != was {
		t.Fatal("P11.4: a copy is not the same")
	}
	changes := []string{"set 3 1", "set 4 1", "take 5 1", "take 5 4", "leave 1", "give 5 2", "put 6 a 1", "put 6 b 1", "remove 6 3", "put 7 1 1", "make name 0 0", "move 1 3", "clone 3 0"}
	for _, call := range changes {
		does(t, c, call)
	}
	if dump(y) != was || entity.Same(y, c) {
		t.Error("R7: what a copy does changes the yard")
	}
	c, was = y.Copy(), dump(y.Copy())
	for _, call := range changes {
		does(t, y, call)
	}
	if dump(c) != was || entity.Same(y, c) {
		t.Error("R7: what the yard does changes a copy")
	}
}

// TestCopiesGrow: a yard and its copy, to both of which something is added, each keep their own.
func TestCopiesGrow(t *testing.T) {
	for n := range 9 {
		y := making(t, "make lock 0 0", "make dict 0 0", "take 1 100")
		for i := range n {
			for _, call := range []string{"take 1 %d", "put 2 %d 5", "make name 0 %d"} {
				does(t, y, fmt.Sprintf(call, i+1))
			}
		}
		c := y.Copy()
		for _, call := range []string{"take 1 50", "put 2 50 6", "make cell 0 6"} {
			does(t, c, call)
		}
		was := dump(c)
		for _, call := range []string{"take 1 60", "put 2 60 7", "make port 0 7"} {
			does(t, y, call)
		}
		if dump(c) != was || does(t, c, fmt.Sprint("get ", n+3)) != "6" || does(t, y, fmt.Sprint("get ", n+3)) != "7" {
			t.Errorf("R7: %d: what the yard does changes a copy", n)
		}
	}
}

func TestSame(t *testing.T) {
	for _, c := range []struct {
		name string
		a, b []string
		want bool
	}{
		{"nothing", nil, nil, true},
		{"a thing more", []string{"make name 0 0"}, nil, false},
		{"another sort", []string{"make cell 0 5"}, []string{"make port 0 5"}, false},
		{"a name against a lock", []string{"make name 0 0"}, []string{"make lock 0 0"}, false},
		{"a dict against an array", []string{"make dict 0 0"}, []string{"row 0 1 0 5"}, false},
		{"another order", []string{"make name 0 0", "make lock 0 0"}, []string{"make lock 0 0", "make name 0 0"}, false},
		{"another space", []string{"make cell 0 5"}, []string{"make cell 1 5"}, false},
		{"another variable", []string{"make cell 0 5"}, []string{"make cell 0 6"}, false},
		{"another chunk", []string{"make chunk 0 5"}, []string{"make chunk 0 6"}, false},
		{"set", []string{"make cell 0 5", "set 1 6"}, []string{"make cell 0 6"}, true},
		{"what is not looked at", []string{"make name 0 5", "make lock 0 5", "make dict 0 5"}, []string{"make name 0 0", "make lock 0 -1", "make dict 0 7"}, true},
		{"moved", []string{"make cell 0 5", "move 0 1"}, []string{"make cell 1 5"}, true},
		{"moved from the root", []string{"move 0 1", "make cell 1 5"}, []string{"make cell 1 5"}, true},
		{"a clone", []string{"make cell 0 5", "clone 1 1 5=6"}, []string{"make cell 0 5", "make cell 1 6"}, true},
		{"a clone of an array", []string{"row 0 1 3 5", "clone 1 0"}, []string{"row 0 1 3 5", "row 0 1 3 5"}, true},
		{"a lock, taken", []string{"make lock 0 0", "take 1 5"}, []string{"make lock 0 0"}, false},
		{"a lock, taken by another one", []string{"make lock 0 0", "take 1 5"}, []string{"make lock 0 0", "take 1 6"}, false},
		{"a lock, taken twice", []string{"make lock 0 0", "take 1 5", "take 1 5"}, []string{"make lock 0 0", "take 1 5"}, false},
		{"a lock, taken and given", []string{"make lock 0 0", "take 1 5", "give 1 5"}, []string{"make lock 0 0"}, true},
		{"a thread waits", []string{"make lock 0 0", "take 1 5", "take 1 6"}, []string{"make lock 0 0", "take 1 5"}, false},
		{"another order of waiting", []string{"make lock 0 0", "take 1 5", "take 1 6", "take 1 7"}, []string{"make lock 0 0", "take 1 5", "take 1 7", "take 1 6"}, false},
		{"it waits no more", []string{"make lock 0 0", "take 1 5", "take 1 6", "leave 6"}, []string{"make lock 0 0", "take 1 5"}, true},
		{"a dict, in another order", []string{"make dict 0 0", "put 1 a 5", "put 1 2 6"}, []string{"make dict 0 0", "put 1 2 6", "put 1 a 5"}, true},
		{"a dict with another variable", []string{"make dict 0 0", "put 1 a 5"}, []string{"make dict 0 0", "put 1 a 6"}, false},
		{"a dict with another feature", []string{"make dict 0 0", "put 1 a 5"}, []string{"make dict 0 0", "put 1 b 5"}, false},
		{"a dict, removed", []string{"make dict 0 0", "put 1 a 5", "remove 1 a"}, []string{"make dict 0 0"}, true},
		{"an array, other places", []string{"row 0 1 3 5"}, []string{"row 0 2 4 5"}, false},
		{"an array, more places", []string{"row 0 1 3 5"}, []string{"row 0 1 4 5"}, false},
		{"an array with another variable", []string{"row 0 1 3 5", "put 1 2 6"}, []string{"row 0 1 3 5"}, false},
		{"an array, put back", []string{"row 0 1 3 5", "put 1 2 6", "put 1 2 5"}, []string{"row 0 1 3 5"}, true},
	} {
		a, b := making(t, c.a...), making(t, c.b...)
		if entity.Same(a, b) != c.want || entity.Same(b, a) != c.want {
			t.Errorf("P11.4: Same: %s: not %v", c.name, c.want)
		}
	}
}
