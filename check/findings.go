package check

import (
	"cmp"
	"container/heap"
	"strings"

	"concourse/api"
)

// The kinds of findings.
const (
	badNum     = 1 + iota // the row of the inodes
	badEntry              // an entry that leads nowhere, or to the root
	badLinks              // a directory of no entry, or of several
	badPlace              // an inode that nothing leads to
	badName               // a name, or the row of names
	badContent            // what an inode of its kind may not have
	badBucket             // a bucket with too many names
	badMade               // what cores made, a number that none was given
	badDesc               // a descriptor
)

// findings are sorted as they come: a heap, whose first is the least.
type findings []api.Finding

func (f findings) Len() int           { return len(f) }
func (f findings) Less(i, j int) bool { return compare(f[i], f[j]) < 0 }
func (f findings) Swap(i, j int)      { f[i], f[j] = f[j], f[i] }

// Push is for the heap alone.
func (f *findings) Push(one any) {
	if finding, is := one.(api.Finding); is {
		*f = append(*f, finding)
	}
}

// Pop is for the heap alone.
func (f *findings) Pop() any {
	last := len(*f) - 1
	one := (*f)[last]
	*f = (*f)[:last]
	return one
}

// add puts a finding among the others.
func (f *findings) add(kind, num int, name string) {
	heap.Push(f, api.Finding{Kind: kind, Num: num, Name: name})
}

// inRow takes all findings out, by Kind, Num and Name, each once, with names of their own.
func (f *findings) inRow() []api.Finding {
	var row []api.Finding
	for f.Len() > 0 {
		one := (*f)[0]
		heap.Pop(f)
		if len(row) == 0 || row[len(row)-1] != one {
			one.Name = strings.Clone(one.Name)
			row = append(row, one)
		}
	}
	return row
}

func compare(a, b api.Finding) int {
	return cmp.Or(cmp.Compare(a.Kind, b.Kind), cmp.Compare(a.Num, b.Num), strings.Compare(a.Name, b.Name))
}
