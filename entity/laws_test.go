package entity_test

import (
	"fmt"
	"slices"
	"strings"
	"testing"

	"manystrand/api"
	"manystrand/entity"
	"manystrand/tree"
)

// yard returns a yard in which some calls were done.
func (m maker) yard(calls int) *entity.Yard {
	y := entity.New()
	for range calls {
		result(y, strings.Fields(m.call(y)))
	}
	return y
}

// all writes what a yard tells of each of its things.
func all(y *entity.Yard) (l []string) {
	for n := range y.Count() {
		l = append(l, of(y, n+1))
	}
	return l
}

// TestOthersStay: a call changes the thing that it names, and no other one.
func TestOthersStay(t *testing.T) {
	m := newMaker(1102)
	changed := map[string]int{}
	for range 1000 {
		y := m.yard(25)
		for range 15 {
			ahead, call := all(y), m.call(y)
			words := strings.Fields(call)
			if words[0] == "leave" {
				continue
			}
			result(y, words)
			for i, was := range ahead {
				is := of(y, i+1)
				isNamed := slices.Contains([]string{"set", "take", "give", "put", "remove"}, words[0]) && number(words[1]) == i+1
				if is != was && !isNamed {
					t.Fatalf("P11.5: %s changes %d: %s, not %s", call, i+1, is, was)
				}
				if is != was {
					changed[words[0]]++
				}
			}
		}
	}
	for _, word := range []string{"set", "take", "give", "put", "remove"} {
		if changed[word] < 20 {
			t.Errorf("only %d times: %s", changed[word], word)
		}
	}
}

// TestLeaveTouchesLocks: a thread that ends changes just the locks that it owns or waits for, and none knows
// of it any more.
func TestLeaveTouchesLocks(t *testing.T) {
	m := newMaker(1103)
	passed := 0
	for range 3000 {
		y := m.yard(40)
		ahead, thread := y.Copy(), 1+m.Intn(4)
		next, _ := y.Leave(thread)
		for n := 1; n <= y.Count(); n++ {
			owner, _, _ := ahead.Owner(n)
			waiting, _ := ahead.Waiting(n)
			left := slices.DeleteFunc(slices.Clone(waiting), func(other int) bool { return other == thread })
			isOwn := owner == thread
			if !isOwn && len(left) == len(waiting) && of(y, n) != of(ahead, n) {
				t.Fatalf("P11.3: %d leaves, which changes %d: %s, not %s", thread, n, of(y, n), of(ahead, n))
			}
			pair := [2]int{n, append(left, 0)[0]}
			if isOwn != slices.Contains(next, pair) {
				t.Fatalf("P11.3: %d leaves %d, where these wait: %v: %v", thread, n, waiting, next)
			}
			if isOwn && pair[1] > 0 {
				passed++
			}
			owner, _, _ = y.Owner(n)
			waiting, _ = y.Waiting(n)
			if owner == thread || slices.Contains(waiting, thread) {
				t.Fatalf("P11.3: %d has left, but not %d", thread, n)
			}
		}
		if again, _ := y.Leave(thread); len(again) != 0 {
			t.Fatalf("P11.3: %d leaves twice: %v", thread, again)
		}
	}
	if passed < 300 {
		t.Errorf("only %d", passed)
	}
}

// TestLineAtLock: a lock has one owner at most, as the answers of Take and Give tell it; who waits gets it in
// the order in which they came, when all give what they took.
func TestLineAtLock(t *testing.T) {
	m := newMaker(1104)
	waited := 0
	for range 2000 {
		y := making(t, "make lock 0 0")
		owner, times := 0, 0
		var line []int
		for range 30 {
			thread := 1 + m.Intn(6)
			if m.Intn(2) == 0 {
				is, _ := y.Take(1, thread)
				if is != (owner == 0 || owner == thread) {
					t.Fatalf("P11.5: %d takes the lock of %d: %v", thread, owner, is)
				}
				if is {
					owner, times = thread, times+1
				} else if !slices.Contains(line, thread) {
					line = append(line, thread)
				}
			} else if next, err := y.Give(1, thread); (err == api.OK) != (owner == thread) {
				t.Fatalf("P11.5: %d gives the lock of %d: %d", thread, owner, err)
			} else if err == api.OK {
				owner, times, line = given(t, owner, times, next, line)
			}
		}
		waited += len(line)
		for owner > 0 {
			next, _ := y.Give(1, owner)
			owner, times, line = given(t, owner, times, next, line)
		}
		if len(line) > 0 {
			t.Fatalf("P11.5: these wait for ever: %v", line)
		}
	}
	if waited < 2000 {
		t.Errorf("only %d", waited)
	}
}

// given returns who owns a lock behind a Give, how often, and who waits: it must be the first one that did.
func given(t *testing.T, owner, times, next int, line []int) (int, int, []int) {
	t.Helper()
	want := 0
	if times == 1 && len(line) > 0 {
		want = line[0]
	}
	if next != want {
		t.Fatalf("P11.5: %d gives, which it has taken %d times: %d is next, not %d", owner, times, next, want)
	}
	switch {
	case times > 1:
		return owner, times - 1, line
	case next > 0:
		return next, 1, line[1:]
	}
	return 0, 0, nil
}

// TestHeld: a cell has what was set last, a dict what was put last, and its keys ascend.
func TestHeld(t *testing.T) {
	m := newMaker(1105)
	for range 500 {
		y := making(t, "make cell 0 1", "make dict 0 0")
		held, last := map[api.Feat]int{}, 1
		for range 40 {
			x, f := 1+m.Intn(9), feat(pick(m, "a", "b", "B", "ab", "0", "1", "2", "3", "10", "1000"))
			switch m.Intn(3) {
			case 0:
				if old, err := y.Set(1, x); old != last || err != api.OK {
					t.Fatalf("P11.5: Set: %d, not %d; %d", old, last, err)
				}
				last = x
			case 1:
				if old, err := y.Put(2, f, x); old != held[f] || err != api.OK {
					t.Fatalf("P11.5: Put at %v: %d, not %d; %d", f, old, held[f], err)
				}
				held[f] = x
			default:
				old, err := y.Remove(2, f)
				if _, is := held[f]; old != held[f] || is != (err == api.OK) {
					t.Fatalf("P11.5: Remove of %v: %d, not %d; %d", f, old, held[f], err)
				}
				delete(held, f)
			}
			keys, _ := y.Keys(2)
			if len(keys) != len(held) || !slices.IsSortedFunc(keys, inOrder) {
				t.Fatalf("P11.5: keys %v of %v", keys, held)
			}
			for f, x := range held {
				if is, _ := y.At(2, f); is != x {
					t.Fatalf("P11.5: At %v: %d, not %d", f, is, x)
				}
			}
		}
	}
}

func inOrder(a, b api.Feat) int {
	switch {
	case tree.Less(a, b):
		return -1
	case tree.Less(b, a):
		return 1
	}
	return 0
}

// TestSameTells: yards are the same exactly if they tell the same.
func TestSameTells(t *testing.T) {
	m := newMaker(1106)
	seen := map[bool]int{}
	for range 10000 {
		a := m.yard(12)
		b := a.Copy()
		for _, y := range []*entity.Yard{a, b} {
			for range m.Intn(3) {
				result(y, strings.Fields(m.call(y)))
			}
		}
		is := dump(a) == dump(b)
		seen[is]++
		if entity.Same(a, b) != is || entity.Same(b, a) != is {
			t.Fatalf("P11.4: Same: not %v:\n%s\n%s", is, dump(a), dump(b))
		}
	}
	if seen[true] < 1000 || seen[false] < 1000 {
		t.Errorf("only %v", seen)
	}
}

// TestCopiesStay: what is done to a yard is not seen in a copy, and the other way round.
func TestCopiesStay(t *testing.T) {
	m := newMaker(1107)
	for range 2000 {
		a := m.yard(20)
		b := a.Copy()
		was := dump(a)
		for range 15 {
			result(a, strings.Fields(m.call(a)))
		}
		if dump(b) != was {
			t.Fatalf("R7: a copy changes with its yard:\n%s\n%s", was, dump(b))
		}
		was = dump(a)
		for range 15 {
			result(b, strings.Fields(m.call(b)))
		}
		if dump(a) != was {
			t.Fatalf("R7: a yard changes with its copy:\n%s\n%s", was, dump(a))
		}
	}
}

// TestClonesStay: a clone tells what the thing did, by other names; but a lock is free.
func TestClonesStay(t *testing.T) {
	m := newMaker(1108)
	seen := map[string]int{}
	for range 2000 {
		y := m.yard(30)
		if y.Count() == 0 {
			continue
		}
		n := 1 + m.Intn(y.Count())
		names := map[int]int{1: 11, 2: 12, 3: 13, 4: 14}
		c, err := y.Clone(n, 8, names)
		if err != api.OK || c != y.Count() || y.Space(c) != 8 || y.Sort(c) != y.Sort(n) {
			t.Fatalf("P11.4: Clone of %d (%s): %d, %d (%s)", n, y.Sort(n), err, c, y.Sort(c))
		}
		seen[y.Sort(n)]++
		if owner, times, _ := y.Owner(c); owner != 0 || times != 0 {
			t.Fatalf("P11.4: the clone of a lock is owned: %d, %d", owner, times)
		}
		was, _ := y.Get(n)
		if x, _ := y.Get(c); x != renamed(was) {
			t.Fatalf("P11.4: Get of a clone: %d, not %d", x, renamed(was))
		}
		keys, _ := y.Keys(n)
		if others, _ := y.Keys(c); !slices.Equal(keys, others) {
			t.Fatalf("P11.4: Keys of a clone: %v, not %v", others, keys)
		}
		for _, f := range keys {
			was, _ := y.At(n, f)
			if x, _ := y.At(c, f); x != renamed(was) {
				t.Fatalf("P11.4: At of a clone at %v: %d, not %d", f, x, renamed(was))
			}
		}
	}
	if len(seen) != 7 || seen["array"] < 50 || seen["dict"] < 50 {
		t.Errorf("only %v", seen)
	}
}

// renamed returns what TestClonesStay makes of a variable, also of one that a clone has already.
func renamed(x int) int {
	if 1 <= x && x <= 4 {
		return x + 10
	}
	return x
}

// TestMoveAll: Move changes the space of all things of a space, and nothing else.
func TestMoveAll(t *testing.T) {
	m := newMaker(1109)
	moved := 0
	for range 1000 {
		y := m.yard(20)
		ahead, from, to := y.Copy(), m.Intn(3), m.Intn(5)
		if err := y.Move(from, to); err != api.OK || fmt.Sprint(all(y)) != fmt.Sprint(all(ahead)) {
			t.Fatalf("P11.4: Move(%d, %d): %d: %v, not %v", from, to, err, all(y), all(ahead))
		}
		for n := 1; n <= y.Count(); n++ {
			want := ahead.Space(n)
			if want == from {
				want = to
				moved++
			}
			if y.Space(n) != want {
				t.Fatalf("P11.4: Move(%d, %d): %d in %d, not %d", from, to, n, y.Space(n), want)
			}
		}
	}
	if moved < 500 {
		t.Errorf("only %d", moved)
	}
}
