package need_test

import (
	"fmt"
	"math"
	"slices"
	"testing"

	"manystrand/api"
	"manystrand/need"
	"manystrand/store"
)

func TestNew(t *testing.T) {
	for _, s := range []*store.Store{nil, {}} {
		if tb, err := need.New(s); tb != nil || err != api.ErrNil {
			t.Errorf("P10.1: New of no store: %v, %d", tb, err)
		}
	}
	s := store.New()
	tb, err := need.New(s)
	if err != api.OK || tb.Store() != s {
		t.Fatalf("P10.1: New works on the store itself: %d", err)
	}
	if tb.Triggers() != nil || tb.Needed(1) {
		t.Error("P10.1: a new table has something")
	}
	s.Var()
	if fired, err := tb.By(1, 5); fired != nil || err != api.OK {
		t.Errorf("P10.1: a variable that came later: %v, %d", fired, err)
	}
	if y, err := tb.View(1); y != 2 || err != api.OK || s.Count() != 2 {
		t.Errorf("P10.1: View makes a variable of the store: %d, %d; %d", y, err, s.Count())
	}
}

// TestNone: tables that are nil or zero (R2, R7).
func TestNone(t *testing.T) {
	for _, tb := range []*need.Table{nil, {}} {
		for _, call := range []string{"by 1 1", "need 1", "view 1", "fail 1 1", "unify 1 1", "waits 1", "by 0 0", "unify 0 0"} {
			if got, rest, err := result(tb, call); err != api.ErrNil || rest {
				t.Errorf("R7: %s of no table: %s, %d", call, got, err)
			}
		}
		if with, is := tb.Failed(1); with != 0 || is || tb.Needed(1) || len(tb.Triggers()) != 0 {
			t.Errorf("R7: no table has something: %d, %v", with, is)
		}
		if tb.Copy() != nil || tb.Store() != nil {
			t.Error("R7: no table has a copy, or a store")
		}
		if some := making(t); need.Same(tb, some) || need.Same(some, tb) {
			t.Error("R7: no table is the same as one")
		}
	}
}

// TestNoVariable: numbers that no variable of the store has.
func TestNoVariable(t *testing.T) {
	for _, x := range []int{0, -1, 4, math.MaxInt, math.MinInt} {
		tb := making(t, "free", "1", "free")
		does(t, tb, "fail 3 1")
		for _, call := range []string{"by %d 1", "need %d", "view %d", "fail %d 1", "fail 1 %d", "fail 3 %d", "unify %d 1", "unify 1 %d", "unify 3 %d", "waits %d"} {
			call = fmt.Sprintf(call, x)
			if got := does(t, tb, call); got != "error 2" {
				t.Errorf("P10.1: %s: %s", call, got)
			}
		}
		if with, is := tb.Failed(x); with != 0 || is || tb.Needed(x) {
			t.Errorf("P10.1: %d is no variable: %d, %v", x, with, is)
		}
	}
}

func TestBy(t *testing.T) {
	play(t, "P10.1", []script{
		{"it fires once", free(2), []string{"by 1 7: []", "triggers: [[1 7]]", "need 1: [7]", "triggers: []", "need 1: []", "unify 1 2: [2] []"}},
		{"determined: at once", []string{"a"}, []string{"by 1 7: [7]", "triggers: []", "by 1 7: [7]"}},
		{"needed: at once", free(1), []string{"need 1: []", "by 1 7: [7]", "by 1 8: [8]", "triggers: []"}},
		{"ranged: not", []string{"in 1#5"}, []string{"by 1 7: []", "needed 1: false"}},
		{"one with a needed one: at once", free(3), []string{"unify 1 2: [2] []", "unify 2 3: [3] []", "need 2: []", "by 3 7: [7]"}},
		{"an id twice", free(2), []string{"by 1 7: []", "by 1 7: error 8", "by 2 7: error 8", "by 2 8: []", "triggers: [[1 7] [2 8]]", "need 2: [8]", "by 1 8: []"}},
		{"an id twice, where it would fire at once", []string{"free", "a"}, []string{"by 1 7: []", "by 2 7: error 8", "need 1: [7]", "by 2 7: [7]"}},
		{"no variable comes ahead of an id twice", free(1), []string{"by 1 7: []", "by 2 7: error 2"}},
		{"any ids", free(1), []string{"by 1 0: []", "by 1 -5: []", fmt.Sprint("by 1 ", math.MaxInt, ": []"), fmt.Sprint("by 1 ", math.MinInt, ": []"), "by 1 -5: error 8", "by 1 0: error 8", fmt.Sprint("need 1: [0 -5 ", math.MaxInt, " ", math.MinInt, "]")}},
		{"in the order in which they came", free(2), []string{"by 2 9: []", "by 1 5: []", "by 2 1: []", "by 1 3: []", "unify 1 2: [2] []", "triggers: [[2 9] [1 5] [2 1] [1 3]]", "need 1: [9 5 1 3]"}},
		{"others stay as they came", free(2), []string{"by 2 9: []", "by 1 5: []", "by 2 1: []", "by 1 3: []", "need 1: [5 3]", "triggers: [[2 9] [2 1]]", "by 2 5: []", "triggers: [[2 9] [2 1] [2 5]]"}},
		{"of a failed one", free(2), []string{"fail 1 2: done", "by 1 7: []", "needed 1: false", "need 1: [7]"}},
		{"not by its number alone", free(3), []string{"by 3 7: []", "unify 3 2: [3] []", "unify 2 1: [2] []", "triggers: [[3 7]]", "need 1: [7]"}},
	})
}

func TestNeed(t *testing.T) {
	play(t, "P10.1", []script{
		{"told", free(2), []string{"needed 1: false", "need 1: []", "needed 1: true", "needed 2: false"}},
		{"determined", []string{"free", "f(1:_1)", "in 1#5", "<cell 1>"}, []string{"needed 1: false", "needed 2: true", "needed 3: false", "needed 4: true", "unify 1 4: [1] []", "needed 1: true"}},
		{"determined by a domain", []string{"in 1#5", "in 5#9", "free"}, []string{"by 2 7: []", "unify 1 2: [1 2] [7]", "needed 1: true"}},
		{"determined beside it", []string{"in 1#5"}, []string{"tell 1 4: done", "needed 1: true"}},
		{"one with a needed one", free(4), []string{"need 4: []", "unify 4 3: [4] []", "needed 3: true", "unify 2 1: [2] []", "needed 1: false", "unify 3 2: [3] []", "needed 1: true", "needed 2: true"}},
		{"of the bound one", free(3), []string{"unify 1 3: [3] []", "need 3: []", "needed 1: true", "needed 2: false"}},
		{"always", free(3), []string{"need 3: []", "unify 3 2: [3] []", "unify 2 1: [2] []", "needed 1: true", "needed 2: true", "needed 3: true", "fail 1 2: done", "needed 1: true"}},
		{"parts are not needed with their record", []string{"free", "f(1:_1)", "free"}, []string{"by 1 7: []", "unify 3 2: [3] []", "needed 1: false", "need 3: []", "needed 1: false"}},
		{"a view's variable, when it is", free(1), []string{"view 1: 2", "view 2: 3", "by 1 7: []", "by 2 8: []", "needed 1: false", "need 3: [7 8]", "needed 1: true", "needed 2: true"}},
		{"not the view, when its variable is", free(1), []string{"view 1: 2", "by 2 7: []", "need 1: []", "needed 2: false", "triggers: [[2 7]]"}},
		{"a view's variable, by what is one with the view", free(2), []string{"view 1: 3", "by 1 7: []", "unify 2 3: [3] []", "need 2: [7]"}},
		{"a view's variable, by what becomes one with the view", free(2), []string{"view 1: 3", "by 1 7: []", "need 2: []", "unify 2 3: [3] [7]"}},
		{"a chain that closes late", free(3), []string{"view 1: 4", "view 2: 5", "view 3: 6", "by 1 7: []", "need 6: []", "unify 5 3: [5] []", "needed 2: true", "unify 2 4: [4] [7]"}},
		{"a cycle of views", free(2), []string{"view 1: 3", "view 2: 4", "unify 3 2: [3] []", "unify 4 1: [4] []", "by 1 7: []", "by 2 8: []", "need 4: [7 8]", "needed 1: true", "needed 2: true", "needed 3: true"}},
		{"two that are needed, of which one fires both", free(2), []string{"by 1 7: []", "view 1: 3", "view 1: 4", "need 3: [7]", "need 4: []", "needed 2: false"}},
	})
}

func TestView(t *testing.T) {
	play(t, "P10.1", []script{
		{"a new variable", free(2), []string{"view 1: 3", "itself 3: 3", "text 3: _3", "view 1: 4", "view 3: 5"}},
		{"of a ranged one: free", []string{"in 1#5"}, []string{"view 1: 2", "text 2: _2", "waits 2: 2"}},
		{"of a bound one", free(2), []string{"unify 1 2: [2] []", "view 2: 3", "unify 3 1: error 100"}},
		{"of a determined one: itself", []string{"free", "a", "free"}, []string{"unify 1 2: [1] []", "view 1: 2", "view 2: 2", "put free: done", "itself 4: 4"}},
		{"of a failed one", free(3), []string{"unify 1 2: [2] []", "fail 1 3: done", "view 1: error 101", "view 2: error 101", "put free: done", "itself 4: 4"}},
		{"it shows what comes", []string{"free", "f(1:3)"}, []string{"view 1: 4", "unify 1 2: [1 4] []", "itself 4: 2", "text 4: f(1:3)", "needed 4: true"}},
	})
}

func TestViewLimit(t *testing.T) {
	tb := making(t, append(free(api.MaxVars-3), "a", "free")...)
	last := api.MaxVars
	for _, c := range [][2]string{
		{"view 7", fmt.Sprint(last)}, {"fail 1 2", "done"}, {"view 7", "error 4"}, {"view 1", "error 101"}, {fmt.Sprint("view ", last+1), "error 2"},
		{fmt.Sprint("view ", last-2), fmt.Sprint(last - 2)}, {fmt.Sprint("unify 7 ", last-2), fmt.Sprintf("[7 %d] []", last)},
	} {
		if got := does(t, tb, c[0]); got != c[1] {
			t.Errorf("P10.1: where no variable can be made: %s: %s, not %s", c[0], got, c[1])
		}
	}
}

func TestFail(t *testing.T) {
	play(t, "P10.1", []script{
		{"free", free(2), []string{"failed 1: 0 false", "fail 1 2: done", "failed 1: 2 true", "failed 2: 0 false"}},
		{"what is one with it", free(4), []string{"unify 1 2: [2] []", "unify 2 3: [3] []", "fail 3 4: done", "failed 1: 4 true", "failed 2: 4 true", "failed 3: 4 true"}},
		{"twice", free(4), []string{"unify 1 2: [2] []", "fail 1 3: done", "fail 1 3: error 2", "fail 2 4: error 2", "failed 1: 3 true"}},
		{"with what is determined, or itself", []string{"free", "free", "f(1:_1)"}, []string{"fail 1 3: done", "fail 2 2: done", "failed 1: 3 true", "failed 2: 2 true"}},
		{"determined", []string{"a", "free"}, []string{"fail 1 2: error 2", "unify 1 2: [2] []", "fail 2 1: error 2", "failed 2: 0 false"}},
		{"ranged", []string{"in 1#5", "free"}, []string{"fail 1 2: error 2", "unify 1 2: [2] []", "fail 2 1: error 2"}},
		{"the x of a view", free(3), []string{"view 1: 4", "unify 1 2: [2] []", "fail 1 3: error 2", "fail 2 3: error 2", "fail 3 1: done"}},
		{"the y of a view", free(3), []string{"view 1: 4", "unify 2 4: [4] []", "fail 4 3: error 2", "fail 2 3: error 2", "fail 3 4: done"}},
		{"a needed one, with triggers", free(2), []string{"by 1 7: []", "fail 1 2: done", "need 1: [7]", "failed 1: 2 true"}},
	})
}

func TestCopy(t *testing.T) {
	tb := making(t, "free", "free", "free", "free", "a")
	for _, call := range []string{"by 1 7", "view 2", "need 3", "fail 4 5"} {
		does(t, tb, call)
	}
	c := tb.Copy()
	if !need.Same(tb, c) || !need.Same(c, tb) || c.Store() == tb.Store() || !store.Same(c.Store(), tb.Store()) {
		t.Fatal("P10.1: a copy is not the same, beside a store of its own")
	}
	was := tb.Copy()
	for _, line := range [][2]string{{"by 2 8", "[]"}, {"need 1", "[7]"}, {"unify 2 5", "[2 6] [8]"}, {"put free", "done"}, {"fail 7 1", "done"}, {"view 7", "error 101"}, {"failed 4", "5 true"}, {"needed 3", "true"}, {"needed 1", "true"}, {"triggers", "[]"}} {
		if got := does(t, c, line[0]); got != line[1] {
			t.Errorf("P10.1: in a copy: %s: %s, not %s", line[0], got, line[1])
		}
	}
	if !need.Same(tb, was) || !slices.Equal(tb.Triggers(), [][2]int{{1, 7}}) || tb.Needed(1) || tb.Store().Count() != 6 {
		t.Error("P10.1: what a copy does changes the table")
	}
	does(t, was, "need 6")
	does(t, was, "fail 1 1")
	if tb.Needed(2) || tb.Needed(6) || does(t, tb, "failed 1") != "0 false" || need.Same(tb, was) {
		t.Error("P10.1: what a copy does changes the table")
	}
}

// TestCopiesGrow: a table and its copy, to both of which something is added, each keep their own.
func TestCopiesGrow(t *testing.T) {
	for n := range 9 {
		tb := making(t, append(free(40), "a")...)
		for i := range n {
			does(t, tb, fmt.Sprint("by 1 ", i))
			does(t, tb, fmt.Sprint("view ", 2+i))
			does(t, tb, fmt.Sprint("fail ", 20+i, " 41"))
		}
		c := tb.Copy()
		for _, line := range [][2]string{{"by 1 50", "[]"}, {"view 15", fmt.Sprint(42 + n)}, {"fail 30 41", "done"}, {"need 16", "[]"}} {
			if got := does(t, c, line[0]); got != line[1] {
				t.Errorf("P10.1: in a copy: %s: %s, not %s", line[0], got, line[1])
			}
		}
		for _, call := range []string{"by 1 60", "view 17", "fail 32 41", "need 18"} {
			does(t, tb, call)
		}
		for _, line := range [][2]string{
			{"failed 30", "41 true"}, {"failed 32", "0 false"}, {"needed 16", "true"}, {"needed 18", "false"},
			{"unify 15 41", fmt.Sprintf("[15 %d] []", 42+n)}, {"unify 17 41", "[17] []"},
		} {
			if got := does(t, c, line[0]); got != line[1] {
				t.Errorf("P10.1: in a copy, behind what the table did: %s: %s, not %s", line[0], got, line[1])
			}
		}
		if l := c.Triggers(); l[n] != [2]int{1, 50} {
			t.Errorf("P10.1: in a copy, behind what the table did: %v", l)
		}
	}
}

func TestTriggersAreNew(t *testing.T) {
	tb := making(t, free(2)...)
	does(t, tb, "by 1 7")
	l := tb.Triggers()
	l[0] = [2]int{2, 9}
	if got := does(t, tb, "triggers"); got != "[[1 7]]" {
		t.Errorf("R4: triggers are changed from outside: %s", got)
	}
}

func TestSame(t *testing.T) {
	parts := append(free(5), "a", "a")
	for _, c := range []struct {
		name string
		a, b []string
		want bool
	}{
		{"nothing", nil, nil, true},
		{"another store", []string{"put free"}, nil, false},
		{"another variable bound", []string{"unify 1 2"}, []string{"unify 1 3"}, false},
		{"a trigger", []string{"by 1 7"}, nil, false},
		{"another id", []string{"by 1 7"}, []string{"by 1 8"}, false},
		{"another variable's trigger", []string{"by 1 7"}, []string{"by 2 7"}, false},
		{"another order of triggers", []string{"by 1 7", "by 1 8"}, []string{"by 1 8", "by 1 7"}, false},
		{"the same trigger, by the variable itself", []string{"unify 1 2", "by 1 7"}, []string{"by 2 7", "unify 1 2"}, true},
		{"a trigger that has fired", []string{"need 1", "by 1 7"}, []string{"need 1"}, true},
		{"a needed one", []string{"need 1"}, nil, false},
		{"another needed one", []string{"need 1"}, []string{"need 2"}, false},
		{"needed, by the variable itself", []string{"need 2", "unify 1 2"}, []string{"unify 1 2", "need 1"}, true},
		{"needed in another order", []string{"need 2", "need 1"}, []string{"need 1", "need 2"}, true},
		{"needed, and then determined", []string{"need 1", "unify 1 6"}, []string{"unify 1 6"}, true},
		{"views in another order", []string{"view 1", "view 2"}, []string{"view 2", "view 1"}, false},
		{"a view of another one", []string{"view 1"}, []string{"view 2"}, false},
		{"another view of one variable", []string{"view 1", "put free"}, []string{"put free", "view 1"}, false},
		{"a view against a variable", []string{"view 1"}, []string{"put free"}, false},
		{"views, by the variables themselves", []string{"unify 1 2", "view 1"}, []string{"unify 1 2", "view 2"}, true},
		{"failed", []string{"fail 1 2"}, nil, false},
		{"failed with another one", []string{"fail 1 2"}, []string{"fail 1 3"}, false},
		{"another one failed", []string{"fail 1 3"}, []string{"fail 2 3"}, false},
		{"failed in another order", []string{"fail 1 3", "fail 2 3"}, []string{"fail 2 3", "fail 1 3"}, false},
		{"failed, by the variables themselves", []string{"unify 1 2", "unify 3 4", "fail 1 3"}, []string{"unify 1 2", "unify 3 4", "fail 2 4"}, true},
	} {
		a, b := making(t, parts...), making(t, parts...)
		for _, call := range c.a {
			does(t, a, call)
		}
		for _, call := range c.b {
			does(t, b, call)
		}
		if need.Same(a, b) != c.want || need.Same(b, a) != c.want {
			t.Errorf("P10.1: Same: %s: not %v", c.name, c.want)
		}
	}
}
