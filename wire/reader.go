package wire

import (
	"conduit/api"
	"conduit/varint"
)

// reader takes values off b from at on; what is wrong is noted once for all that is behind it: from then on nothing is taken off.
type reader struct {
	b     []byte
	at    int
	wrong bool
}

// part answers a piece of b itself: what is told of it must be a copy.
func (r *reader) part() []byte {
	size := r.size()
	from := r.at
	r.at += size
	return r.b[from:r.at]
}

func (r *reader) bytes() []byte {
	return append([]byte(nil), r.part()...)
}

func (r *reader) text() string {
	return string(r.part())
}

// size takes a length or a count: more than the bytes that are left is wrong for both, because each thing of a list has one byte at least.
func (r *reader) size() int {
	n, end, ok := varint.Get(r.b, r.at)
	r.wrong = r.wrong || !ok || n > uint64(len(r.b)-end)
	if r.wrong {
		return 0
	}
	r.at = end
	return int(n)
}

func (r *reader) flag() bool {
	r.wrong = r.wrong || r.at == len(r.b) || r.b[r.at] > 1
	if r.wrong {
		return false
	}
	r.at++
	return r.b[r.at-1] == 1
}

// number takes one that is wrong unless its type holds it.
func number[N ~int | ~int64 | ~uint8](r *reader) N {
	n, end, ok := varint.GetInt(r.b, r.at)
	r.wrong = r.wrong || !ok || int64(N(n)) != n
	if r.wrong {
		return 0
	}
	r.at = end
	return N(n)
}

// takeList takes how many a list has, and each of them by take.
func takeList[T any](r *reader, take func() T) []T {
	var list []T
	for range r.size() {
		list = append(list, take())
		if r.wrong {
			return nil
		}
	}
	return list
}

func (r *reader) partCommand() api.PartCommand {
	return api.PartCommand{
		Kind:   number[api.PartKind](r),
		Batch:  r.batch(),
		Offset: number[int64](r),
	}
}

func (r *reader) batch() api.Batch {
	return api.Batch{
		Pid:     number[int64](r),
		Epoch:   number[int](r),
		First:   number[int64](r),
		Records: r.records(),
	}
}

func (r *reader) records() [][]byte {
	return takeList(r, func() []byte { return r.bytes() })
}

func (r *reader) metaCommand() api.MetaCommand {
	return api.MetaCommand{
		Kind:   number[api.MetaKind](r),
		Group:  r.text(),
		Name:   r.text(),
		N:      number[int](r),
		Topics: r.texts(),
		Place:  r.place(),
		Offset: number[int64](r),
		Now:    number[int64](r),
		Client: number[int](r),
		Call:   number[int](r),
	}
}

func (r *reader) texts() []string {
	return takeList(r, func() string { return r.text() })
}

func (r *reader) place() api.Place {
	return api.Place{Topic: r.text(), Part: number[int](r)}
}

func (r *reader) places() []api.Place {
	return takeList(r, func() api.Place { return r.place() })
}

func (r *reader) partState() api.PartState {
	return api.PartState{
		Start:   number[int64](r),
		End:     number[int64](r),
		Records: r.records(),
		Producers: takeList(r, func() api.Producer {
			return api.Producer{
				Pid:    number[int64](r),
				Epoch:  number[int](r),
				Next:   number[int64](r),
				Recent: takeList(r, func() api.Recent { return r.recent() }),
			}
		}),
	}
}

func (r *reader) recent() api.Recent {
	return api.Recent{
		First:  number[int64](r),
		Count:  number[int](r),
		Offset: number[int64](r),
	}
}

func (r *reader) metaState() api.MetaState {
	return api.MetaState{
		Now: number[int64](r),
		Topics: takeList(r, func() api.Topic {
			return api.Topic{Name: r.text(), Parts: number[int](r)}
		}),
		Writers: takeList(r, func() api.Writer {
			return api.Writer{Name: r.text(), Pid: number[int64](r), Epoch: number[int](r)}
		}),
		Groups:  takeList(r, func() api.Group { return r.group() }),
		Callers: takeList(r, func() api.Caller { return r.caller() }),
	}
}

func (r *reader) group() api.Group {
	return api.Group{
		Name:       r.text(),
		Generation: number[int](r),
		Phase:      number[api.Phase](r),
		Until:      number[int64](r),
		Members: takeList(r, func() api.Member {
			return api.Member{Sub: r.sub(), Seen: number[int64](r), Back: r.flag()}
		}),
		Shares: takeList(r, func() api.Share {
			return api.Share{Member: r.text(), Places: r.places()}
		}),
		Offsets: takeList(r, func() api.Kept {
			return api.Kept{Place: r.place(), Offset: number[int64](r)}
		}),
	}
}

func (r *reader) sub() api.Sub {
	return api.Sub{Member: r.text(), Topics: r.texts()}
}

func (r *reader) caller() api.Caller {
	return api.Caller{
		Client: number[int](r),
		Floor:  number[int](r),
		Calls: takeList(r, func() api.Told {
			return api.Told{Call: number[int](r), Answer: r.metaAnswer()}
		}),
	}
}

func (r *reader) metaAnswer() api.MetaAnswer {
	return api.MetaAnswer{
		Err:    number[api.Errno](r),
		Pid:    number[int64](r),
		Epoch:  number[int](r),
		N:      number[int](r),
		Phase:  number[api.Phase](r),
		Places: r.places(),
	}
}

func (r *reader) request() api.Request {
	return api.Request{
		Kind:   number[api.RequestKind](r),
		Client: number[int](r),
		Call:   number[int](r),
		Topic:  r.text(),
		Part:   number[int](r),
		Batch:  r.batch(),
		Offset: number[int64](r),
		Most:   number[int](r),
		Bytes:  number[int](r),
		Meta:   r.metaCommand(),
	}
}

func (r *reader) response() api.Response {
	return api.Response{
		Kind:    number[api.RequestKind](r),
		Client:  number[int](r),
		Call:    number[int](r),
		Err:     number[api.Errno](r),
		Leader:  number[int](r),
		Offset:  number[int64](r),
		Start:   number[int64](r),
		End:     number[int64](r),
		Again:   r.flag(),
		Records: r.records(),
		Meta:    r.metaAnswer(),
	}
}

func (r *reader) raft() api.Raft {
	return api.Raft{
		Group:   r.text(),
		Kind:    number[api.RaftKind](r),
		From:    number[int](r),
		To:      number[int](r),
		Term:    number[int](r),
		Index:   number[int](r),
		LogTerm: number[int](r),
		Commit:  number[int](r),
		Round:   number[int](r),
		Ok:      r.flag(),
		Entries: takeList(r, func() api.Entry {
			return api.Entry{Term: number[int](r), Data: r.bytes()}
		}),
		Snap: r.bytes(),
	}
}
