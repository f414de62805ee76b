package segment

import (
	"bytes"
	"iter"

	"conduit/api"
	"conduit/file"
)

const (
	// ahead is how many bytes of a sector stand ahead of its data: how far it is filled, and a nought.
	ahead = 2
	// room is how many bytes of data a sector has.
	room = api.Sector - ahead
)

// sectorsFor is how many sectors a stream of so many bytes needs.
func sectorsFor(size int) int {
	return (size + room - 1) / room
}

// sectorsOf hands on the sectors of a clean file with that stream, and their places, from a place on.
func sectorsOf(stream []byte, from int) iter.Seq2[int, []byte] {
	return func(yield func(int, []byte) bool) {
		for at := from; at < sectorsFor(len(stream)); at++ {
			data := stream[at*room : min(at*room+room, len(stream))]
			sector := make([]byte, api.Sector)
			sector[0] = byte(len(data))
			copy(sector[ahead:], data)
			if !yield(at, sector) {
				return
			}
		}
	}
}

// dataOf hands on the data of a file's sectors up to where they are filled, up to the first one that is not full, that one too.
func dataOf(held []byte) iter.Seq[[]byte] {
	return func(yield func([]byte) bool) {
		for at := 0; at < len(held); at += api.Sector {
			filled := int(held[at])
			if filled > room {
				filled = 0
			}
			if !yield(held[at+ahead:at+ahead+filled]) || filled < room {
				return
			}
		}
	}
}

func streamOf(held []byte) []byte {
	var stream []byte
	for data := range dataOf(held) {
		stream = append(stream, data...)
	}
	return stream
}

// isClean tells whether a file's bytes are those of a clean file with that stream.
func isClean(held, stream []byte) bool {
	if len(held) != sectorsFor(len(stream))*api.Sector {
		return false
	}
	for at, sector := range sectorsOf(stream, 0) {
		if !bytes.Equal(sector, held[at*api.Sector:(at+1)*api.Sector]) {
			return false
		}
	}
	return true
}

// put puts the sectors of a clean file with that stream, from a place on.
func put(d *file.Disk, name string, stream []byte, from int) api.Errno {
	for at, sector := range sectorsOf(stream, from) {
		if e := d.Put(name, at, sector); e != api.OK {
			return e
		}
	}
	return api.OK
}

// leave leaves of a file that begins with that stream nothing else, synced.
func leave(d *file.Disk, name string, stream []byte) api.Errno {
	// All data of a full sector are the stream's already. One that is not full has to say so, whether or not a crash keeps the cut.
	if e := put(d, name, stream, len(stream)/room); e != api.OK {
		return e
	}
	if e := d.Cut(name, sectorsFor(len(stream))); e != api.OK {
		return e
	}
	return d.Sync(name)
}
