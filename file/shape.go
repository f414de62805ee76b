package file

import (
	"maps"

	"conduit/api"
)

type sector [api.Sector]byte

// nobody is no file's number: it is what a map of names answers to a name that no file has.
const nobody = 0

// shape is a disk's names and its files' sectors, the durable ones or those that stand. It has a row for each file with a name, and for no other: the making of a file comes ahead of its other steps, and nothing else gives a name to a file without one, so what becomes of such a file is never told.
type shape struct {
	names map[string]int
	rows  map[int][]sector
}

func newShape() shape {
	return shape{map[string]int{}, map[int][]sector{}}
}

func (s shape) copied() shape {
	c := shape{maps.Clone(s.names), map[int][]sector{}}
	for file, row := range s.rows {
		c.rows[file] = append([]sector(nil), row...)
	}
	return c
}

func (s shape) carryOut(t step) {
	switch t.kind {
	case stepMade:
		s.take(t.name)
		s.names[t.name], s.rows[t.file] = t.file, nil
	case stepPut:
		s.put(t.file, t.at, t.data)
	case stepCut:
		s.cut(t.file, t.at)
	case stepRenamed:
		if s.names[t.name] == t.file {
			delete(s.names, t.name)
			s.take(t.to)
			s.names[t.to] = t.file
		}
	case stepRemoved:
		if s.names[t.name] == t.file {
			s.take(t.name)
		}
	}
}

// take takes a name away from the file that has it, if one does.
func (s shape) take(name string) {
	delete(s.rows, s.names[name])
	delete(s.names, name)
}

func (s shape) put(file, at int, data sector) {
	row, there := s.rows[file]
	if !there {
		return
	}
	for len(row) <= at {
		row = append(row, sector{})
	}
	row[at] = data
	s.rows[file] = row
}

func (s shape) cut(file, at int) {
	if row := s.rows[file]; at < len(row) {
		s.rows[file] = row[:at]
	}
}
