package plog

import (
	"iter"
	"slices"
	"strconv"
	"strings"

	"conduit/api"
	"conduit/file"
	"conduit/index"
	"conduit/segment"
)

// maxNumber is the highest number in a segment's file's name: one of 18 digits.
const maxNumber = 999_999_999_999_999_999

// part is a segment of a log, and the index of its first frame.
type part struct {
	first  int
	frames *segment.Segment
}

// end is the index behind a part's last frame.
func (p part) end() int {
	return p.first + p.frames.Count()
}

// fileOf is the name of the file of a log's segment.
func fileOf(name string, first int) string {
	return name + "-" + strconv.Itoa(first)
}

func openPart(d *file.Disk, name string, first int) (part, api.Errno) {
	frames, e := segment.Open(d, fileOf(name, first))
	return part{first, frames}, e
}

// openAll opens the segments of a log's files.
func openAll(d *file.Disk, name string) ([]part, api.Errno) {
	own := func(held string) (int, bool) {
		first, _ := strconv.Atoi(strings.TrimPrefix(held, name+"-"))
		// Noughts and a plus ahead would be read, too: a file is the log's if its name is the one that the log would give it.
		return first, first >= 1 && first <= maxNumber && held == fileOf(name, first)
	}
	var parts []part
	for _, first := range numbersOf(d.Names(), own) {
		p, e := openPart(d, name, first)
		if e != api.OK {
			return nil, e
		}
		if n := len(parts); n > 0 && parts[n-1].end() != first {
			return nil, api.ErrLog
		}
		parts = append(parts, p)
	}
	return parts, api.OK
}

// numbersOf are the numbers of a log's own files, rising.
func numbersOf(files []string, own func(held string) (int, bool)) []int {
	var numbers []int
	for _, held := range files {
		if number, is := own(held); is {
			numbers = append(numbers, number)
		}
	}
	// Names rise as texts do: 10 is ahead of 9 there.
	slices.Sort(numbers)
	return numbers
}

// find is the place among the parts of the last one that begins at an index or ahead of it; -1, if there is none.
func (l *Log) find(at int) int {
	if at < l.first {
		return -1
	}
	pairs := make([][2]int, len(l.parts))
	for i, p := range l.parts {
		pairs[i] = [2]int{p.first - l.first, i}
	}
	pair, e := index.Find(pairs, at-l.first)
	if e != api.OK {
		return -1
	}
	return pair[1]
}

// bodies are so many bodies from an index on; the log has as many.
func (l *Log) bodies(from, count int) [][]byte {
	var list [][]byte
	place := l.find(from)
	for at := from; at < from+count; at++ {
		if at == l.parts[place].end() {
			place++
		}
		p := l.parts[place]
		// A segment tells the frames that it has without its disk: there is no error.
		body, _ := p.frames.Read(at - p.first)
		list = append(list, body)
	}
	return list
}

// withRoom are the parts, of which the last one is the next body's; they are not the log's yet.
func (l *Log) withRoom() ([]part, api.Errno) {
	if n := len(l.parts); n > 0 {
		last := l.parts[n-1].frames
		if last.Size() < l.most {
			return l.parts, api.OK
		}
		// A crash may keep the new segment's file: then all ahead of it must be there.
		if e := last.Sync(); e != api.OK {
			return nil, e
		}
	}
	p, e := openPart(l.disk, l.name, l.Last()+1)
	if e != api.OK {
		return nil, e
	}
	return append(l.parts, p), api.OK
}

// takeAway takes the files of parts away, in this order, each durably ahead of the next one, so that a crash leaves no gap.
func (l *Log) takeAway(parts iter.Seq2[int, part]) api.Errno {
	for _, p := range parts {
		if e := l.disk.Remove(fileOf(l.name, p.first)); e != api.OK {
			return e
		}
		if e := l.disk.SyncNames(); e != api.OK {
			return e
		}
	}
	return api.OK
}
