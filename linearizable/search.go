package linearizable

import (
	"slices"
	"strconv"

	"heartwood/api"
	"heartwood/model"
)

// configuration is what a search has come to: the events that were executed, as bits, and the state after them.
type configuration struct {
	done  int
	state string
}

// search looks for a linearization of a few events.
func search(s api.State, l []api.Event) (bool, []int) {
	before := make([]int, len(l)) // the events that precede each one
	complete := 0
	for i, e := range l {
		for k, other := range l {
			if precedes(other, e) {
				before[i] |= 1 << k
			}
		}
		if isComplete(e) {
			complete |= 1 << i
		}
	}
	failed := map[configuration]bool{}
	var order []int
	var extend func(s api.State, done int) bool
	extend = func(s api.State, done int) bool {
		if done&complete == complete {
			return true
		}
		here := configuration{done, text(s)}
		if failed[here] {
			return false
		}
		for i, e := range l {
			if done>>i&1 == 1 || before[i]&^done != 0 {
				continue
			}
			next, result, _ := model.Apply(s, e.Op)
			if isComplete(e) && !sameResult(result, e.Res) {
				continue
			}
			if !isComplete(e) && model.Same(s, next) {
				continue
			}
			order = append(order, i)
			if extend(next, done|1<<i) {
				return true
			}
			order = order[:len(order)-1]
			if is, _ := model.IsUpdate(s.Kind, e.Op.Code); !is {
				// A query changes nothing, wherever it comes: what could come before this one could come after it as well.
				break
			}
		}
		failed[here] = true
		return false
	}
	if !extend(s, 0) {
		return false, nil
	}
	return true, slices.Clone(order)
}

// text returns a text that tells the rows of a state.
func text(s api.State) string {
	var b []byte
	for _, row := range s.Rows {
		for _, n := range row {
			b = strconv.AppendInt(b, int64(n), 10)
			b = append(b, ' ')
		}
		b = append(b, ';')
	}
	return string(b)
}
