package trace

// sorter sorts places as they come. It keeps them as runs that rise, each but
// the last at least twice as long as the one behind it. One run alone would
// have to move all that came, wherever places fall; with these a place is moved
// about as often as the number of places can be halved.
type sorter struct {
	runs [][]int
}

// take takes a place: at the end of the last run, while that rises.
func (s *sorter) take(at int) {
	last := len(s.runs) - 1
	if last < 0 {
		s.runs = append(s.runs, []int{at})
		return
	}
	run := s.runs[last]
	end := run[len(run)-1]
	switch {
	case at > end:
		s.runs[last] = append(run, at)
	case at < end:
		s.settle()
		s.runs = append(s.runs, []int{at})
	}
}

// settle joins runs from the last on, until each is at least twice as long as
// the one behind it.
func (s *sorter) settle() {
	last := len(s.runs) - 1
	for last > 0 && len(s.runs[last-1]) < 2*len(s.runs[last]) {
		s.runs[last-1] = join(s.runs[last-1], s.runs[last])
		s.runs = s.runs[:last]
		last--
	}
}

// all tells what was taken, rising, each once.
func (s *sorter) all() []int {
	var all []int
	for at := len(s.runs) - 1; at >= 0; at-- {
		all = join(s.runs[at], all)
	}
	return all
}

// join makes one rising list of two; what both have is there once.
func join(a []int, b []int) []int {
	both := make([]int, 0, len(a)+len(b))
	for len(a) > 0 && len(b) > 0 {
		switch {
		case a[0] < b[0]:
			both, a = append(both, a[0]), a[1:]
		case a[0] > b[0]:
			both, b = append(both, b[0]), b[1:]
		default:
			a = a[1:]
		}
	}
	return append(append(both, a...), b...)
}
