package check_test

import (
	"math"
	"testing"

	"concourse/api"
)

// P20.1, kind 9: descriptors of no core, of no Fd, of no file.
func TestWrongDescriptors(t *testing.T) {
	for _, core := range []int{3, 4, 8, 1 << 32, math.MaxInt} {
		want(t, "no core", turned(func(s *api.State) { s.Open[2].Core = core }), f(9, 11))
	}
	for _, core := range []int{-1, -8, math.MinInt} {
		want(t, "a core below 0", turned(func(s *api.State) { s.Open[0].Core = core }), f(9, 3))
	}
	for _, fd := range []int{4, 5, 1 << 32, math.MaxInt} {
		want(t, "no Fd", turned(func(s *api.State) { s.Open[2].Fd = fd }), f(9, 11))
	}
	for _, fd := range []int{-1, -4, math.MinInt} {
		want(t, "an Fd below 0", turned(func(s *api.State) { s.Open[0].Fd = fd }), f(9, 3))
	}
	for _, num := range []int{0, 1, 2, 10, 12, -3, math.MinInt, math.MaxInt} {
		want(t, "no file", turned(func(s *api.State) { s.Open[0].Num = num }), f(9, num))
	}
	for core := range 3 {
		for fd := range 4 {
			want(t, "some", turned(func(s *api.State) {
				s.Open = []api.Desc{{Core: core, Fd: fd, Num: 11}}
			}))
		}
	}
}

// P20.1, kind 9: descriptors that are equal, or fall.
func TestTheRowOfDescriptors(t *testing.T) {
	wantEach(t, []one{
		{"equal", func(s *api.State) { s.Open = append(s.Open, s.Open[2]) }, all(f(9, 11))},
		{"equal, of another file", func(s *api.State) { s.Open[1].Fd = 3 }, all(f(9, 11))},
		{"equal, three", func(s *api.State) { s.Open = append(s.Open, s.Open[2], s.Open[2]) }, all(f(9, 11))},
		{"falling cores", func(s *api.State) { s.Open[0].Core = 2 }, all(f(9, 3))},
		{"falling cores, rising Fds", func(s *api.State) { s.Open[0], s.Open[1] = s.Open[1], s.Open[0] }, all(f(9, 3))},
		{"falling Fds", func(s *api.State) { s.Open[1].Fd, s.Open[2].Fd = 3, 0 }, all(f(9, 11))},
		{"rising cores, falling Fds", func(s *api.State) { s.Open[0].Fd, s.Open[1].Fd = 3, 0 }, nil},
		{"below the one ahead alone", func(s *api.State) { s.Open[1].Core = 2 }, all(f(9, 11))},
		{"several", func(s *api.State) { s.Open[0].Num, s.Open[1].Fd, s.Open[2].Core = 2, 7, -1 }, all(f(9, 2), f(9, 3), f(9, 11))},
		{"of one file, all wrong", func(s *api.State) {
			s.Open[0].Fd, s.Open[1].Core = 9, 9
			s.Open = append(s.Open, api.Desc{Core: 1, Fd: 3, Num: 3})
		}, all(f(9, 3), f(9, 11))},
		{"all of one core", func(s *api.State) {
			s.Open = []api.Desc{{Num: 11}, {Fd: 1, Num: 11}, {Fd: 2, Num: 3}, {Fd: 3, Num: 3}}
		}, nil},
		{"one above all of one core", func(s *api.State) {
			s.Open = []api.Desc{{Num: 11}, {Fd: 1, Num: 11}, {Fd: 2, Num: 3}, {Fd: 3, Num: 3}, {Fd: 4, Num: 4}}
		}, all(f(9, 4))},
	})
}
