package entity

import (
	"slices"

	"manystrand/api"
)

// A lock is free (its owner is 0), or a thread owns it, and others may wait for it.
type lock struct {
	owner, times int
	waiting      []int
}

// pass takes a lock from its owner, gives it to the first thread that waits, and returns that one.
func (l *lock) pass() (next int) {
	if len(l.waiting) == 0 {
		*l = lock{}
		return 0
	}
	l.owner, l.times = l.waiting[0], 1
	l.waiting = slices.Delete(l.waiting, 0, 1)
	return l.owner
}

func sameLock(a, b lock) bool {
	return a.owner == b.owner && a.times == b.times && slices.Equal(a.waiting, b.waiting)
}

// lockFor returns a lock for a thread.
func (y *Yard) lockFor(n, thread int) (*lock, api.Errno) {
	t, err := y.find(n, "lock")
	switch {
	case err != api.OK:
		return nil, err
	case thread < 1:
		return nil, api.ErrArg
	}
	return &t.lock, api.OK
}

// Take makes a thread the owner of a lock, once more if it is, or lets it wait, and reports whether it is
// the owner.
func (y *Yard) Take(n, thread int) (bool, api.Errno) {
	l, err := y.lockFor(n, thread)
	switch {
	case err != api.OK:
		return false, err
	case l.owner == 0 || l.owner == thread:
		l.owner = thread
		l.times++
		return true, api.OK
	case !slices.Contains(l.waiting, thread):
		l.waiting = append(l.waiting, thread)
	}
	return false, api.OK
}

// Give gives a lock back, once, and returns the thread that becomes its owner by that.
func (y *Yard) Give(n, thread int) (next int, err api.Errno) {
	l, err := y.lockFor(n, thread)
	switch {
	case err != api.OK:
		return 0, err
	case l.owner != thread:
		return 0, api.ErrOwner
	case l.times > 1:
		l.times--
		return 0, api.OK
	}
	return l.pass(), api.OK
}

// Leave lets a thread wait for no lock any more, and gives back all that it owns: it returns these, each
// with its next owner.
func (y *Yard) Leave(thread int) (next [][2]int, err api.Errno) {
	switch {
	case y.isNone():
		return nil, api.ErrNil
	case thread < 1:
		return nil, api.ErrArg
	}
	for n := range y.things {
		l := &y.things[n].lock
		l.waiting = slices.DeleteFunc(l.waiting, func(other int) bool { return other == thread })
		if l.owner == thread {
			next = append(next, [2]int{n, l.pass()})
		}
	}
	return next, api.OK
}

// Owner returns the owner of a lock, and how often it took it.
func (y *Yard) Owner(n int) (thread, times int, err api.Errno) {
	t, err := y.find(n, "lock")
	if err != api.OK {
		return 0, 0, err
	}
	return t.lock.owner, t.lock.times, api.OK
}

// Waiting returns the threads that wait for a lock, in the order in which they came.
func (y *Yard) Waiting(n int) ([]int, api.Errno) {
	t, err := y.find(n, "lock")
	if err != api.OK {
		return nil, err
	}
	return slices.Clone(t.lock.waiting), api.OK
}
