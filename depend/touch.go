package depend

import (
	"concourse/api"
)

// The names of keys that stand for more than an entry.
const (
	whole   = ""  // all of a number
	through = "." // a directory is gone through, which two calls may do side by side
)

// meeting holds keys such that each other key is held against all of them at once:
// rows of calls may be long.
type meeting struct {
	keys map[api.Key]struct{}
	nums map[int]struct{} // those that keys have
}

func newMeeting() *meeting {
	return &meeting{keys: map[api.Key]struct{}{}, nums: map[int]struct{}{}}
}

// add takes keys in.
func (m *meeting) add(keys []api.Key) {
	for _, k := range keys {
		m.keys[k] = struct{}{}
		m.nums[k.Num] = struct{}{}
	}
}

// touches tells whether one of these keys meets one that is held.
func (m *meeting) touches(keys []api.Key) bool {
	for _, k := range keys {
		if m.meets(k) {
			return true
		}
	}
	return false
}

// meets tells whether a key meets one that is held.
func (m *meeting) meets(k api.Key) bool {
	if k.Name == whole {
		_, has := m.nums[k.Num]
		return has
	}
	return m.has(api.Key{Num: k.Num, Name: whole}) || k.Name != through && m.has(k)
}

// has tells whether a key is held.
func (m *meeting) has(k api.Key) bool {
	_, is := m.keys[k]
	return is
}
