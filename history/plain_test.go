package history_test

import (
	"slices"
	"testing"

	"concourse/api"
	"concourse/model"
)

// plain gives the states behind all rows that the chapter takes, by their texts: each row of all that ended with each
// choice of what has not, one by one, with nothing remembered. If it gives none, there is no such row.
func plain(s api.State, ops []api.Op) map[string]api.State {
	ends := map[string]api.State{}
	for _, chosen := range choices(ops) {
		inEachRow(chosen, func(row []api.Op) {
			if !keepsAhead(row) {
				return
			}
			if last, may := inRow(s, row); may {
				ends[show(last)] = last
			}
		})
	}
	return ends
}

// choices gives what ended with each choice of what has not.
func choices(ops []api.Op) [][]api.Op {
	all := [][]api.Op{nil}
	for _, o := range ops {
		var longer [][]api.Op
		for _, chosen := range all {
			longer = append(longer, append(slices.Clone(chosen), o))
		}
		if o.Ended == -1 {
			longer = append(longer, all...)
		}
		all = longer
	}
	return all
}

// inEachRow calls with operations in each of their rows, in one list that it turns.
func inEachRow(ops []api.Op, call func(row []api.Op)) {
	list := slices.Clone(ops)
	var from func(at int)
	from = func(at int) {
		if at == len(list) {
			call(list)
			return
		}
		for other := at; other < len(list); other++ {
			list[at], list[other] = list[other], list[at]
			from(at + 1)
			list[at], list[other] = list[other], list[at]
		}
	}
	from(0)
}

// keepsAhead tells whether no operation stands ahead of one that ended before it began.
func keepsAhead(row []api.Op) bool {
	for at, a := range row {
		for _, b := range row[at+1:] {
			if b.Ended != -1 && b.Ended <= a.Began {
				return false
			}
		}
	}
	return true
}

// inRow gives the state behind operations in a row, if each may answer what it did.
func inRow(s api.State, row []api.Op) (api.State, bool) {
	for _, o := range row {
		if o.Ended == -1 {
			s, _ = model.Do(s, o.Call)
			continue
		}
		var may bool
		if s, may = model.Allows(s, o.Call, o.Result); !may {
			return s, false
		}
	}
	return s, true
}

// The plain words themselves: how many rows there are, and what they end at.
func TestPlainWords(t *testing.T) {
	rows := 0
	inEachRow(make([]api.Op, 5), func([]api.Op) { rows++ })
	if rows != 120 {
		t.Errorf("%d rows of 5", rows)
	}
	s := newState(t, 2)
	ops := []api.Op{going(create("/a"), 0), going(create("/b"), 0), op(by(1, create("/c")), 0, 3, 4)}
	if all := choices(ops); len(all) != 4 {
		t.Errorf("%d choices", len(all))
	}
	if ends := plain(s, ops); len(ends) != 5 {
		t.Errorf("%d ends: %v", len(ends), ends)
	}
}
