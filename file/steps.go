package file

import (
	"cmp"
	"slices"
)

type kind uint8

const (
	stepMade kind = iota
	stepPut
	stepCut
	stepRenamed
	stepRemoved
)

// step is a change that a crash keeps or loses by itself. It tells its file by a number, since a file keeps what it is when its name changes.
type step struct {
	number int
	kind   kind
	file   int
	// name is what the file is made with, what its name was ahead of the change, or what is taken away.
	name string
	to   string
	// at is the sector that is put, or the first one that is cut off.
	at   int
	data sector
}

// backlog is the unsynced steps: those of names in one row, those of sectors in a row for each file, so that a file is synced without a look at what the others have. Their numbers tell the order of all.
type backlog struct {
	last    int
	names   []step
	sectors map[int][]step
}

func newBacklog() backlog {
	return backlog{sectors: map[int][]step{}}
}

func (b *backlog) copied() backlog {
	c := backlog{last: b.last, names: append([]step(nil), b.names...), sectors: map[int][]step{}}
	for file, own := range b.sectors {
		c.sectors[file] = append([]step(nil), own...)
	}
	return c
}

func (b *backlog) add(s step) {
	b.last++
	s.number = b.last
	if s.kind == stepPut || s.kind == stepCut {
		b.sectors[s.file] = append(b.sectors[s.file], s)
	} else {
		b.names = append(b.names, s)
	}
}

func (b *backlog) count() int {
	n := len(b.names)
	for _, own := range b.sectors {
		n += len(own)
	}
	return n
}

// toMaking is how many steps of names there are up to the one by which a file was made, with it; 0, if that one is not among them.
func (b *backlog) toMaking(file int) int {
	return 1 + slices.IndexFunc(b.names, func(s step) bool {
		return s.kind == stepMade && s.file == file
	})
}

// takeNames takes the first n steps of names off.
func (b *backlog) takeNames(n int) []step {
	first := append([]step(nil), b.names[:n]...)
	b.names = slices.Delete(b.names, 0, n)
	return first
}

// takeSectors takes the steps of a file's sectors off.
func (b *backlog) takeSectors(file int) []step {
	own := b.sectors[file]
	delete(b.sectors, file)
	return own
}

func (b *backlog) inOrder() []step {
	all := append([]step(nil), b.names...)
	for _, own := range b.sectors {
		all = append(all, own...)
	}
	slices.SortFunc(all, func(x, y step) int {
		return cmp.Compare(x.number, y.number)
	})
	return all
}
