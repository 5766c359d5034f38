package kinetic

import (
	"slices"

	"heartwood/api"
)

// Tournament keeps the point with the greatest position.
type Tournament struct {
	motions []api.Motion
	now     api.Frac
	winner  int
	events  int
}

// NewTournament returns the tournament of some motions at the time 0.
func NewTournament(l []api.Motion) (*Tournament, api.Errno) {
	switch {
	case !areMotions(l):
		return nil, api.ErrArg
	case len(l) == 0:
		return nil, api.ErrEmpty
	case len(l) > api.MaxArgs:
		return nil, api.ErrFull
	}
	k := &Tournament{motions: slices.Clone(l), now: api.Frac{Num: 0, Den: 1}}
	k.winner = k.last()
	return k, api.OK
}

// last returns the last point in the order now.
func (k *Tournament) last() int {
	best := 0
	for i := range k.motions {
		if compare(k.motions, k.now, i, best) > 0 {
			best = i
		}
	}
	return best
}

// Advance makes t the time now, and returns the winner.
func (k *Tournament) Advance(t api.Frac) (int, api.Errno) {
	if k == nil || len(k.motions) == 0 || !isTime(t) {
		return 0, api.ErrArg
	}
	if compareTimes(t, k.now) < 0 {
		return 0, api.ErrTime
	}
	for next, found := k.overtaken(); found && compareTimes(next, t) <= 0; next, found = k.overtaken() {
		k.now = next
		k.winner = k.last()
		k.events++
	}
	k.now = t
	return k.winner, api.OK
}

// overtaken returns when the winner will be met by a faster point the first time.
func (k *Tournament) overtaken() (api.Frac, bool) {
	var first api.Frac
	found := false
	for _, m := range k.motions {
		if m.Speed <= k.motions[k.winner].Speed {
			continue
		}
		if t := meeting(k.motions[k.winner], m); !found || compareTimes(t, first) < 0 {
			first, found = t, true
		}
	}
	return first, found
}

// Winner returns the winner now.
func (k *Tournament) Winner() int {
	if k == nil {
		return 0
	}
	return k.winner
}

// Events returns how often the winner has changed since the time 0.
func (k *Tournament) Events() int {
	if k == nil {
		return 0
	}
	return k.events
}
