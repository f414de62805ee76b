package wire

import (
	"conduit/api"
	"conduit/varint"
)

// writer puts values behind b while b keeps to most; once it would not, that is noted, and nothing more is put, however much there is.
type writer struct {
	b    []byte
	most int
	long bool
}

// fits says whether size bytes more may be put, and notes it if not.
func (w *writer) fits(size int) bool {
	w.long = w.long || size > w.most-len(w.b)
	return !w.long
}

func (w *writer) bytes(b []byte) {
	w.size(len(b))
	w.raw(b)
}

func (w *writer) text(s string) {
	w.size(len(s))
	if w.fits(len(s)) {
		w.b = append(w.b, s...)
	}
}

func (w *writer) size(n int) {
	// A list of its own, because varint copies the list it is handed.
	w.raw(varint.Put(nil, uint64(n)))
}

func (w *writer) numbers(list ...int64) {
	for _, n := range list {
		w.raw(varint.PutInt(nil, n))
	}
}

func (w *writer) flag(v bool) {
	if v {
		w.raw([]byte{1})
	} else {
		w.raw([]byte{0})
	}
}

func (w *writer) raw(b []byte) {
	if w.fits(len(b)) {
		w.b = append(w.b, b...)
	}
}

// putList puts how many list has, and each of them by put.
func putList[T any](w *writer, list []T, put func(T)) {
	w.size(len(list))
	for _, x := range list {
		if w.long {
			return
		}
		put(x)
	}
}

func (w *writer) partCommand(c api.PartCommand) {
	w.numbers(int64(c.Kind))
	w.batch(c.Batch)
	w.numbers(c.Offset)
}

func (w *writer) batch(b api.Batch) {
	w.numbers(b.Pid, int64(b.Epoch), b.First)
	w.records(b.Records)
}

func (w *writer) records(list [][]byte) {
	putList(w, list, func(b []byte) { w.bytes(b) })
}

func (w *writer) metaCommand(c api.MetaCommand) {
	w.numbers(int64(c.Kind))
	w.text(c.Group)
	w.text(c.Name)
	w.numbers(int64(c.N))
	w.texts(c.Topics)
	w.place(c.Place)
	w.numbers(c.Offset, c.Now, int64(c.Client), int64(c.Call))
}

func (w *writer) texts(list []string) {
	putList(w, list, func(s string) { w.text(s) })
}

func (w *writer) place(p api.Place) {
	w.text(p.Topic)
	w.numbers(int64(p.Part))
}

func (w *writer) places(list []api.Place) {
	putList(w, list, func(p api.Place) { w.place(p) })
}

func (w *writer) partState(s api.PartState) {
	w.numbers(s.Start, s.End)
	w.records(s.Records)
	putList(w, s.Producers, func(p api.Producer) {
		w.numbers(p.Pid, int64(p.Epoch), p.Next)
		putList(w, p.Recent, func(r api.Recent) {
			w.numbers(r.First, int64(r.Count), r.Offset)
		})
	})
}

func (w *writer) metaState(s api.MetaState) {
	w.numbers(s.Now)
	putList(w, s.Topics, func(t api.Topic) {
		w.text(t.Name)
		w.numbers(int64(t.Parts))
	})
	putList(w, s.Writers, func(p api.Writer) {
		w.text(p.Name)
		w.numbers(p.Pid, int64(p.Epoch))
	})
	putList(w, s.Groups, func(g api.Group) { w.group(g) })
	putList(w, s.Callers, func(c api.Caller) {
		w.numbers(int64(c.Client), int64(c.Floor))
		putList(w, c.Calls, func(t api.Told) {
			w.numbers(int64(t.Call))
			w.metaAnswer(t.Answer)
		})
	})
}

func (w *writer) group(g api.Group) {
	w.text(g.Name)
	w.numbers(int64(g.Generation), int64(g.Phase), g.Until)
	putList(w, g.Members, func(m api.Member) {
		w.text(m.Sub.Member)
		w.texts(m.Sub.Topics)
		w.numbers(m.Seen)
		w.flag(m.Back)
	})
	putList(w, g.Shares, func(s api.Share) {
		w.text(s.Member)
		w.places(s.Places)
	})
	putList(w, g.Offsets, func(k api.Kept) {
		w.place(k.Place)
		w.numbers(k.Offset)
	})
}

func (w *writer) metaAnswer(a api.MetaAnswer) {
	w.numbers(int64(a.Err), a.Pid, int64(a.Epoch), int64(a.N), int64(a.Phase))
	w.places(a.Places)
}

func (w *writer) request(r api.Request) {
	w.numbers(int64(r.Kind), int64(r.Client), int64(r.Call))
	w.text(r.Topic)
	w.numbers(int64(r.Part))
	w.batch(r.Batch)
	w.numbers(r.Offset, int64(r.Most), int64(r.Bytes))
	w.metaCommand(r.Meta)
}

func (w *writer) response(r api.Response) {
	w.numbers(int64(r.Kind), int64(r.Client), int64(r.Call), int64(r.Err), int64(r.Leader))
	w.numbers(r.Offset, r.Start, r.End)
	w.flag(r.Again)
	w.records(r.Records)
	w.metaAnswer(r.Meta)
}

func (w *writer) raft(m api.Raft) {
	w.text(m.Group)
	w.numbers(int64(m.Kind), int64(m.From), int64(m.To), int64(m.Term))
	w.numbers(int64(m.Index), int64(m.LogTerm), int64(m.Commit), int64(m.Round))
	w.flag(m.Ok)
	putList(w, m.Entries, func(e api.Entry) {
		w.numbers(int64(e.Term))
		w.bytes(e.Data)
	})
	w.bytes(m.Snap)
}
