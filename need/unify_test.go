package need_test

import (
	"fmt"
	"testing"

	"manystrand/api"
)

func TestUnify(t *testing.T) {
	play(t, "P10.2", []script{
		{"as the store's", []string{"free", "free", "f(1:_1)", "f(1:4)"}, []string{"unify 3 4: [1 4] []", "text 1: 4", "unify 3 4: [] []"}},
		{"all variables that are touched", []string{"free", "free", "(_1#8)", "(9#_2)"}, []string{"view 2: 7", "unify 3 5: [1 2 5 7] []", "text 1: 9", "text 7: 8"}},
		{"a view, and what is one with it", []string{"free", "free", "5"}, []string{"view 2: 4", "unify 4 1: [4] []", "unify 2 3: [1 2] []", "text 1: 5", "text 4: 5"}},
		{"views of one variable", []string{"free", "a"}, []string{"view 1: 3", "view 1: 4", "unify 1 2: [1 3 4] []", "itself 4: 2"}},
		{"a view of a view", []string{"free", "a"}, []string{"view 1: 3", "view 3: 4", "unify 1 2: [1 3 4] []", "itself 4: 2"}},
		{"a chain, made from its end", []string{"free", "free", "free", "a"}, []string{"view 3: 5", "view 2: 6", "view 1: 7", "unify 6 3: [6] []", "unify 7 2: [7] []", "unify 1 4: [1 2 3 5] []", "itself 5: 4", "itself 6: 4"}},
		{"a view of a ranged one", []string{"in 1#5", "in 5#9"}, []string{"view 1: 3", "unify 1 2: [1 2 3] []", "text 3: 5"}},
		{"a ranged one that stays so", []string{"in 1#5", "in 4#9"}, []string{"view 1: 3", "unify 1 2: [1 2] []", "text 3: _3", "itself 3: 3"}},
		{"a view and a failure in the way of nothing", []string{"free", "free", "free", "a"}, []string{"view 1: 5", "fail 2 3: done", "unify 3 4: [3] []"}},
		{"a view shown already is as its variable", []string{"free", "f(1:_1)", "free", "5"}, []string{"view 3: 5", "unify 3 2: [3 5] []", "unify 5 2: [] []", "put f(1:5): done", "unify 5 6: [1 6] []"}},
	})
}

func TestUnifyFires(t *testing.T) {
	play(t, "P10.2", []script{
		{"by what is determined", []string{"free", "a"}, []string{"by 1 7: []", "unify 1 2: [1] [7]", "triggers: []"}},
		{"not by what stays free, or ranged", []string{"free", "free", "in 1#5"}, []string{"by 1 7: []", "by 2 8: []", "unify 1 2: [2] []", "unify 1 3: [1] []", "triggers: [[1 7] [2 8]]"}},
		{"of parts", []string{"free", "free", "(_1#_2)", "(3#b)"}, []string{"by 2 7: []", "by 1 8: []", "by 2 9: []", "unify 3 4: [1 2 4] [7 8 9]"}},
		{"by what is needed", free(2), []string{"by 1 7: []", "need 2: []", "unify 1 2: [2] [7]"}},
		{"by what the bound one was", free(2), []string{"by 2 7: []", "need 1: []", "unify 1 2: [2] [7]"}},
		{"of views", []string{"free", "a"}, []string{"view 1: 3", "view 3: 4", "by 4 9: []", "by 1 8: []", "by 3 7: []", "unify 1 2: [1 3 4] [9 8 7]"}},
		{"once alone", []string{"free", "free", "a"}, []string{"by 1 7: []", "unify 1 2: [2] []", "need 2: [7]", "unify 1 3: [1] []"}},
		{"not if it fails", free(2), []string{"by 1 7: []", "put (_1#1): done", "put (5#2): done", "unify 3 5: error 60", "triggers: [[1 7]]", "needed 1: false"}},
	})
}

func TestUnifyErrors(t *testing.T) {
	play(t, "P10.2", []script{
		{"no variable", free(2), []string{"fail 1 2: done", "unify 1 3: error 2", "unify 3 1: error 2"}},
		{"it fails", []string{"free", "f(1:_1)", "f(1:_1)", "a", "in 1#5"}, []string{"unify 2 4: error 60", "unify 5 4: error 60"}},
		{"it fails in its parts, with views and failures", []string{"free", "free", "(_1#a)", "(_2#b)"}, []string{"view 1: 7", "unify 3 5: error 60", "put free: done", "fail 8 1: done", "unify 3 5: error 60", "unify 1 2: [2] []"}},
		{"a failed one", []string{"free", "free", "free", "a"}, []string{"fail 1 4: done", "unify 1 2: error 101", "unify 2 1: error 101", "unify 1 4: error 101", "unify 1 1: error 101", "failed 1: 4 true"}},
		{"one that is one with it", free(3), []string{"unify 1 2: [2] []", "fail 1 3: done", "unify 2 3: error 101", "unify 1 2: error 101"}},
		{"a failed part would be told", []string{"free", "f(1:_1)", "f(1:a)"}, []string{"fail 1 2: done", "unify 2 3: error 101", "unify 3 2: error 101"}},
		{"a failed part would be ranged", []string{"free", "f(1:_1)", "in 1#5", "f(1:_3)"}, []string{"fail 1 2: done", "unify 2 4: error 101"}},
		{"another one would be one with a failed part", []string{"free", "free", "f(1:_1)", "f(1:_2)"}, []string{"fail 1 3: done", "unify 3 4: error 101", "unify 4 3: error 101"}},
		{"a failed part would be bound", []string{"free", "free", "f(1:_1)", "f(1:_2)"}, []string{"fail 2 3: done", "unify 3 4: error 101", "unify 4 3: error 101"}},
		{"two failed ones", []string{"free", "free", "f(1:_1)", "f(1:_2)"}, []string{"fail 2 3: done", "fail 1 3: done", "unify 3 4: error 101"}},
		{"one failed part in both", []string{"free", "free", "(_1#_2)", "(_1#a)"}, []string{"fail 1 3: done", "unify 3 4: [2 4] []", "failed 1: 3 true"}},
		{"failed parts that are one", []string{"free", "free", "f(1:_1)", "f(1:_2)"}, []string{"unify 1 2: [2] []", "fail 2 3: done", "unify 3 4: [4] []"}},
		{"a failed one comes ahead of a failure to unify", []string{"free", "a", "b"}, []string{"fail 1 2: done", "unify 1 3: error 101", "unify 2 3: error 60"}},
		{"what fails comes ahead of a failed part", []string{"free", "(_1#a)", "(1#b)"}, []string{"fail 1 2: done", "unify 2 4: error 60"}},
		{"a failed part comes ahead of a view", []string{"free", "free", "(_1#_2)", "(a#b)", "free"}, []string{"fail 1 7: done", "fail 7 1: done", "view 2: 8", "put (_1#_8): done", "put (a#b): done", "unify 9 10: error 101"}},
		{"what fails comes ahead of a view", []string{"free"}, []string{"view 1: 2", "put (_2#a): done", "put (3#b): done", "unify 3 5: error 60"}},
	})
}

func TestBlocked(t *testing.T) {
	play(t, "P10.2", []script{
		{"the view would be determined", []string{"free", "a"}, []string{"view 1: 3", "unify 3 2: error 100", "unify 2 3: error 100", "unify 1 2: [1 3] []", "unify 3 2: [] []"}},
		{"what is one with it would be", []string{"free", "free", "a"}, []string{"view 1: 4", "unify 2 4: [4] []", "unify 2 3: error 100", "unify 3 4: error 100"}},
		{"it would be ranged", []string{"free", "in 1#5"}, []string{"view 1: 3", "unify 3 2: error 100", "unify 1 2: [1] []", "unify 3 2: error 100", "unify 3 1: error 100"}},
		{"it would be one with its variable", free(1), []string{"view 1: 2", "unify 1 2: error 100", "unify 2 1: error 100", "unify 2 2: [] []"}},
		{"what is one with it would be one with its variable", free(3), []string{"view 1: 4", "unify 2 4: [4] []", "unify 3 1: [3] []", "unify 2 3: error 100"}},
		{"it would be one with another view", free(2), []string{"view 1: 3", "view 2: 4", "unify 3 4: error 100", "unify 4 3: error 100"}},
		{"it would be one with another view of its variable", free(1), []string{"view 1: 2", "view 1: 3", "unify 3 2: error 100"}},
		{"it would be one with another view that is shown", []string{"free", "free", "a"}, []string{"view 1: 4", "view 2: 5", "unify 2 3: [2 5] []", "unify 4 5: error 100", "unify 1 3: [1 4] []", "unify 4 5: [] []"}},
		{"with another free one, of whatever number", free(3), []string{"view 2: 4", "unify 1 4: [4] []", "put free: done", "unify 4 5: [5] []", "view 3: 6", "put free: done", "unify 7 6: [7] []", "waits 7: 6"}},
		{"not ahead, but with it: a record", []string{"free"}, []string{"view 1: 2", "put (_1#_2): done", "put (a#a): done", "unify 3 4: error 100", "put (a#_1): done", "unify 3 6: error 100"}},
		{"not ahead, but with it: one with another view", free(2), []string{"view 1: 3", "view 2: 4", "put f(1:_1 2:_2 3:_3): done", "put f(1:a 2:a 3:_4): done", "unify 5 6: error 100"}},
		{"a record of its variable alone, and of what is free", []string{"free", "free"}, []string{"view 1: 3", "put (_1#_3): done", "put (a#_2): done", "unify 4 5: [1 2 3 5] []", "text 4: (a#a)"}},
		{"in parts", []string{"free"}, []string{"view 1: 2", "put f(1:_2): done", "put f(1:a): done", "unify 3 4: error 100", "put f(1:_1): done", "unify 3 6: error 100", "unify 4 6: [1 2 6] []", "unify 3 4: [4] []"}},
		{"a cycle of views", []string{"free", "free", "a"}, []string{"view 1: 4", "view 2: 5", "unify 4 2: [4] []", "unify 5 1: [5] []", "unify 1 3: error 100", "unify 2 3: error 100", "unify 4 3: error 100", "unify 5 3: error 100", "unify 1 2: error 100", "text 1: _1", "text 4: _2"}},
		{"nothing comes of it", []string{"free", "a"}, []string{"view 1: 3", "by 3 7: []", "by 1 8: []", "unify 3 2: error 100", "triggers: [[3 7] [1 8]]", "needed 1: false", "waits 3: 3"}},
	})
}

// TestBeside: the store was told more of a view's variable beside the table.
func TestBeside(t *testing.T) {
	play(t, "P10.2", []script{
		{"what comes of it is told with the next one", []string{"free", "free", "free"}, []string{"view 1: 4", "by 4 7: []", "by 1 8: []", "tell 1 5: done", "unify 2 3: [3 4] [7 8]", "text 4: 5"}},
		{"the view is otherwise by then", []string{"free", "6", "5", "free"}, []string{"view 1: 5", "by 5 7: []", "tell 1 5: done", "unify 5 2: error 60", "triggers: [[5 7]]", "text 5: _5", "unify 5 4: [4 5] [7]", "text 4: 5"}},
		{"each once", []string{"free", "in 5#9"}, []string{"view 1: 3", "tell 1 6: done", "tell 3 3#7: done", "unify 2 3: [2 3] []", "text 3: 6"}},
		{"the view is the same by then", []string{"free", "5"}, []string{"view 1: 3", "tell 1 5: done", "unify 3 2: [2 3] []", "itself 3: 1"}},
	})
}

// TestGone: variables of the table are gone, by an Undo beside it. Nothing is promised of them, but that
// every call ends (R1), and tells nothing of what is no variable.
func TestGone(t *testing.T) {
	calls := []string{"by 1 9", "by 2 8", "need 1", "need 2", "view 1", "view 2", "fail 1 2", "unify 1 2", "waits 1", "triggers", "unify 1 1"}
	for i := range calls {
		tb := making(t, free(2)...)
		tb.Store().Mark()
		grow(tb.Store(), "free")
		grow(tb.Store(), "free")
		for _, call := range []string{"view 3", "view 5", "unify 6 1", "by 3 5", "by 6 6", "need 6", "view 1", "view 7", "unify 8 2", "need 2", "fail 4 3"} {
			does(t, tb, call)
		}
		tb.Store().Undo(0)
		for k := range calls {
			does(t, tb, calls[(i+k)%len(calls)])
			for _, x := range []int{0, -1, 5, 6, 99} {
				if with, is := tb.Failed(x); x > tb.Store().Count() && (with != 0 || is || tb.Needed(x)) {
					t.Fatalf("P10.1: %d is no variable: %d, %v, %v", x, with, is, tb.Needed(x))
				}
			}
		}
	}
}

func TestWaits(t *testing.T) {
	play(t, "P10.2", []script{
		{"free", free(3), []string{"unify 2 3: [3] []", "waits 1: 1", "waits 2: 2", "waits 3: 2", "needed 1: false"}},
		{"ranged", []string{"in 1#5", "free"}, []string{"unify 1 2: [2] []", "waits 2: 1", "waits 1: 1"}},
		{"determined", []string{"free", "a"}, []string{"waits 2: 0", "unify 1 2: [1] []", "waits 1: 0"}},
		{"failed", free(3), []string{"unify 1 2: [2] []", "fail 1 3: done", "waits 1: error 101", "waits 2: error 101", "waits 3: 3"}},
		{"a view", free(1), []string{"view 1: 2", "by 1 7: []", "by 2 8: []", "waits 2: 2", "waits 1: 1", "triggers: [[1 7] [2 8]]", "needed 2: false"}},
	})
}

// TestWaitsForFailure: a view shows what has failed, by a unification beside the table.
func TestWaitsForFailure(t *testing.T) {
	tb := making(t, free(3)...)
	does(t, tb, "view 1")
	does(t, tb, "fail 2 3")
	if _, err := tb.Store().Unify(1, 2); err != api.OK {
		t.Fatal(err)
	}
	for _, x := range []int{1, 2, 4} {
		if got := does(t, tb, fmt.Sprint("waits ", x)); got != "error 101" {
			t.Errorf("P10.2: Waits %d: %s", x, got)
		}
	}
}

// TestMany: long chains of views, from their beginning and from their end, and many triggers.
func TestMany(t *testing.T) {
	const n = 2000
	for _, isBackward := range []bool{false, true} {
		tb := making(t, append(free(n), "a")...)
		for i := range n - 1 {
			x := i + 1
			if isBackward {
				x = n - 1 - i
			}
			y, _ := tb.View(x)
			if _, _, err := tb.Unify(y, x+1); err != api.OK {
				t.Fatalf("P10.2: Unify(%d, %d): %d", y, x+1, err)
			}
		}
		for id := range n {
			tb.By(id+1, id)
		}
		if fired, err := tb.Need(n); len(fired) != n || err != api.OK {
			t.Fatalf("P10.1: %d of %d fired, %d", len(fired), n, err)
		}
		if touched, _, err := tb.Unify(1, n+1); len(touched) != n || err != api.OK || tb.Store().Itself(n) != n+1 {
			t.Fatalf("P10.2: %d of %d touched, %d", len(touched), n, err)
		}
	}
}
