package model

import (
	"concourse/api"
	"concourse/inum"
	"concourse/name"
)

// May tells whether a state may be. The rules about each inode come first: those behind
// them may take it that there are few inodes, in their row, and no entry leads nowhere.
func May(s api.State) bool {
	return mayMade(s.Made) && mayNums(s) && mayInodes(s) && mayOpen(s) && allHeld(s) && allFound(s)
}

// mayMade tells whether there are cores, and each made as many inodes as one can.
func mayMade(made []int) bool {
	if len(made) < 1 || len(made) > api.MaxCores {
		return false
	}
	for _, count := range made {
		if count < 0 || count > api.MaxMade {
			return false
		}
	}
	return true
}

// mayNums tells whether the inodes rise from the root on, and cores were given their numbers.
func mayNums(s api.State) bool {
	if len(s.Inodes) == 0 || s.Inodes[0].Num != root || !s.Inodes[0].Dir || !inRow(s.Inodes, byNum) {
		return false
	}
	for _, x := range s.Inodes[1:] {
		core := inum.Core(x.Num)
		if core >= len(s.Made) || givenAhead(x.Num) >= s.Made[core] {
			return false
		}
	}
	return true
}

// mayInodes tells whether each inode has what one of its kind may have.
func mayInodes(s api.State) bool {
	for _, x := range s.Inodes {
		if x.Dir && (x.Data != "" || !mayEntries(s, x.Entries)) {
			return false
		}
		if !x.Dir && (len(x.Entries) > 0 || len(x.Data) > api.MaxFile) {
			return false
		}
	}
	return true
}

// mayEntries tells whether a directory may have these entries.
func mayEntries(s api.State, entries []api.Entry) bool {
	var slots [api.Buckets]int
	for _, e := range entries {
		bucket := name.Bucket(e.Name)
		slots[bucket]++
		if slots[bucket] > api.MaxSlots || !name.May(e.Name) || e.Num == root || inode(s, e.Num) == nil {
			return false
		}
	}
	return inRow(entries, byName)
}

// mayOpen tells whether the descriptors stand in their row, and each is a core's, for a file.
func mayOpen(s api.State) bool {
	if !inRow(s.Open, byCoreAndFd) {
		return false
	}
	for _, d := range s.Open {
		if d.Core < 0 || d.Core >= len(s.Made) || d.Fd < 0 || d.Fd >= api.MaxFds {
			return false
		}
		if x := inode(s, d.Num); x == nil || x.Dir {
			return false
		}
	}
	return true
}

// allHeld tells whether each directory but the root has just one entry, and each file
// has an entry or is open.
func allHeld(s api.State) bool {
	var entries [last + 1]int
	for _, x := range s.Inodes {
		for _, e := range x.Entries {
			entries[e.Num]++
		}
	}
	for _, x := range s.Inodes[1:] {
		if x.Dir && entries[x.Num] != 1 {
			return false
		}
		if !x.Dir && entries[x.Num] == 0 && !isOpen(s, x.Num) {
			return false
		}
	}
	return true
}

// allFound tells whether each directory is found from the root on. The way ends, since
// none has two entries, and the root none.
func allFound(s api.State) bool {
	directories := 0
	for _, x := range s.Inodes {
		if x.Dir {
			directories++
		}
	}
	found := []int{root}
	for at := 0; at < len(found); at++ {
		for _, e := range inode(s, found[at]).Entries {
			if inode(s, e.Num).Dir {
				found = append(found, e.Num)
			}
		}
	}
	return len(found) == directories
}
