package explore

import (
	"slices"

	"heartwood/api"
	"heartwood/scheduler"
)

// interval is how many steps there are from one saved state to the next one.
const interval = 32

// explorer goes through the schedules of a state in their order.
type explorer struct {
	c        api.Code
	path     []int
	levels   []level       // one for each step of the path, before it
	now      api.Threads   // after the path
	saved    []api.Threads // after every interval-th step of the path, from the first state on
	switches int           // the most that a schedule may have
}

// level is a place of a schedule: which threads are enabled there, and how many switches there are before it.
type level struct {
	enabled  []int
	switches int
}

// explore calls visit with each schedule that has few switches, and the state to which it leads; both are changed
// afterwards.
func explore(c api.Code, s api.Threads, most, switches int, visit func([]int, api.Threads)) api.Errno {
	x := &explorer{c: c, now: scheduler.Copied(s), saved: []api.Threads{s}, switches: switches}
	for count := 1; ; count++ {
		if !x.extend() || count > most {
			return api.ErrLimit
		}
		visit(x.path, x.now)
		if !x.advance() {
			return api.OK
		}
	}
}

// extend goes on by the least threads up to the end of a schedule, and reports whether there is one.
func (x *explorer) extend() bool {
	for {
		enabled := scheduler.Enabled(x.now)
		if len(enabled) == 0 {
			return true
		}
		if x.now.Step == api.MaxSteps {
			return false
		}
		l := level{enabled: enabled}
		if n := len(x.levels); n > 0 {
			l.switches = x.levels[n-1].switches
			if x.isSwitch(n-1, x.path[n-1]) {
				l.switches++
			}
		}
		x.levels = append(x.levels, l)
		thread, _ := x.choose(len(x.path), -1)
		x.step(thread)
	}
}

// isSwitch reports whether a step of a thread at a place of the path is a switch.
func (x *explorer) isSwitch(place, thread int) bool {
	return place > 0 && x.path[place-1] != thread && slices.Contains(x.levels[place].enabled, x.path[place-1])
}

// choose returns the least thread after another one that may do a step at a place.
func (x *explorer) choose(place, after int) (int, bool) {
	l := x.levels[place]
	for _, thread := range l.enabled {
		if thread > after && (l.switches < x.switches || !x.isSwitch(place, thread)) {
			return thread, true
		}
	}
	return 0, false
}

func (x *explorer) step(thread int) {
	scheduler.Step(x.c, &x.now, thread)
	x.path = append(x.path, thread)
	if len(x.path)%interval == 0 {
		x.saved = append(x.saved, scheduler.Copied(x.now))
	}
}

// advance goes back to the last place at which another thread may follow, and takes that one; it reports whether there
// is such a place.
func (x *explorer) advance() bool {
	for place, last := range slices.Backward(x.path) {
		if thread, found := x.choose(place, last); found {
			x.goBack(place)
			x.step(thread)
			return true
		}
	}
	return false
}

// goBack makes the path shorter.
func (x *explorer) goBack(place int) {
	k := place / interval
	x.saved = x.saved[:k+1]
	x.now = scheduler.Copied(x.saved[k])
	for _, thread := range x.path[k*interval : place] {
		scheduler.Step(x.c, &x.now, thread)
	}
	x.path = x.path[:place]
	x.levels = x.levels[:place+1]
}
