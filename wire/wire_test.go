package wire

import (
	"bytes"
	"encoding/binary"
	"math"
	"reflect"
	"runtime"
	"slices"
	"strings"
	"testing"

	"conduit/api"
)

// kind is one of the seven, with its calls and its limit, so that one test goes through all of them.
type kind struct {
	name string
	mark byte
	most int
	of   reflect.Type
	put  func(any) ([]byte, api.Errno)
	get  func([]byte) (any, api.Errno)
}

func kindOf[T any](name string, mark byte, most int, put func(T) ([]byte, api.Errno), get func([]byte) (T, api.Errno)) kind {
	return kind{
		name, mark, most, reflect.TypeFor[T](),
		func(x any) ([]byte, api.Errno) { return put(x.(T)) },
		func(b []byte) (any, api.Errno) { return get(b) },
	}
}

func kinds() []kind {
	return []kind{
		kindOf("Part", 1, 60000, PutPart, GetPart),
		kindOf("Meta", 2, 60000, PutMeta, GetMeta),
		kindOf("Parts", 3, 60000, PutParts, GetParts),
		kindOf("Metas", 4, 60000, PutMetas, GetMetas),
		kindOf("Request", 5, 60000, PutRequest, GetRequest),
		kindOf("Response", 6, 60000, PutResponse, GetResponse),
		kindOf("Raft", 7, 65545, PutRaft, GetRaft),
	}
}

// What a piece of a thing's bytes is.
const (
	aMark = iota
	aNumber
	aFlag
	aSize
	raw
)

// piece is some bytes of a thing; of is the type of what they say.
type piece struct {
	what int
	of   reflect.Type
	b    []byte
}

func isBytes(t reflect.Type) bool {
	return t.Kind() == reflect.Slice && t.Elem().Kind() == reflect.Uint8
}

// walk is the chapter's rule for values, by api's own declarations and the library's numbers, not by the layers below: it hands on the pieces of v.
func walk(v reflect.Value, each func(piece)) {
	tell := func(what int, b []byte) { each(piece{what, v.Type(), b}) }
	size := func() { tell(aSize, binary.AppendUvarint(nil, uint64(v.Len()))) }
	switch v.Kind() {
	case reflect.Int, reflect.Int64:
		tell(aNumber, binary.AppendVarint(nil, v.Int()))
	case reflect.Uint8:
		tell(aNumber, binary.AppendVarint(nil, int64(v.Uint())))
	case reflect.Bool:
		if v.Bool() {
			tell(aFlag, []byte{1})
		} else {
			tell(aFlag, []byte{0})
		}
	case reflect.String:
		size()
		tell(raw, []byte(v.String()))
	case reflect.Slice:
		size()
		if isBytes(v.Type()) {
			tell(raw, bytes.Clone(v.Bytes()))
			return
		}
		for i := range v.Len() {
			walk(v.Index(i), each)
		}
	case reflect.Struct:
		for i := range v.NumField() {
			walk(v.Field(i), each)
		}
	default:
		panic("no rule for " + v.Type().String())
	}
}

// ruledOf is a value's bytes.
func ruledOf(v reflect.Value) []byte {
	var out []byte
	walk(v, func(p piece) { out = append(out, p.b...) })
	return out
}

func (k kind) ruled(x any) []byte { return append([]byte{k.mark}, ruledOf(reflect.ValueOf(x))...) }

func (k kind) pieces(x any) []piece {
	list := []piece{{aMark, k.of, []byte{k.mark}}}
	walk(reflect.ValueOf(x), func(p piece) { list = append(list, p) })
	return list
}

func joined(list []piece) []byte {
	var out []byte
	for _, p := range list {
		out = append(out, p.b...)
	}
	return out
}

// readInto is a second reader: it takes numbers and flags of any form; whether that form was the right one is asked by read.
func readInto(v reflect.Value, b []byte) ([]byte, bool) {
	sized := func() (int, bool) {
		n, size := binary.Uvarint(b)
		if size <= 0 || n > uint64(len(b)-size) {
			return 0, false
		}
		b = b[size:]
		return int(n), true
	}
	switch v.Kind() {
	case reflect.Int, reflect.Int64, reflect.Uint8:
		n, size := binary.Varint(b)
		if size <= 0 {
			return nil, false
		}
		if v.Kind() == reflect.Uint8 {
			v.SetUint(uint64(n) & 0xFF)
		} else {
			v.SetInt(n)
		}
		return b[size:], true
	case reflect.Bool:
		if len(b) == 0 {
			return nil, false
		}
		v.SetBool(b[0] != 0)
		return b[1:], true
	case reflect.String:
		n, ok := sized()
		if !ok {
			return nil, false
		}
		v.SetString(string(b[:n]))
		return b[n:], true
	case reflect.Slice:
		n, ok := sized()
		if !ok {
			return nil, false
		}
		if isBytes(v.Type()) {
			v.SetBytes(bytes.Clone(b[:n]))
			return b[n:], true
		}
		for range n {
			x := reflect.New(v.Type().Elem()).Elem()
			if b, ok = readInto(x, b); !ok {
				return nil, false
			}
			v.Set(reflect.Append(v, x))
		}
		return b, true
	}
	ok := true
	for i := range v.NumField() {
		if b, ok = readInto(v.Field(i), b); !ok {
			return nil, false
		}
	}
	return b, true
}

// read answers the thing whose bytes b are: what was taken off is put again by the rule, and must be b.
func (k kind) read(b []byte) (any, bool) {
	if len(b) == 0 || len(b) > k.most || b[0] != k.mark {
		return nil, false
	}
	v := reflect.New(k.of).Elem()
	rest, ok := readInto(v, b[1:])
	if !ok || len(rest) > 0 || !bytes.Equal(k.ruled(v.Interface()), b) {
		return nil, false
	}
	return v.Interface(), true
}

// alike holds two values against each other; an empty list and none are the same (R6).
func alike(a, b reflect.Value) bool {
	switch a.Kind() {
	case reflect.Slice:
		if a.Len() != b.Len() {
			return false
		}
		for i := range a.Len() {
			if !alike(a.Index(i), b.Index(i)) {
				return false
			}
		}
		return true
	case reflect.Struct:
		for i := range a.NumField() {
			if !alike(a.Field(i), b.Field(i)) {
				return false
			}
		}
		return true
	}
	return a.Equal(b)
}

func same(a, b any) bool {
	return reflect.TypeOf(a) == reflect.TypeOf(b) && alike(reflect.ValueOf(a), reflect.ValueOf(b))
}

func (k kind) none() any { return reflect.Zero(k.of).Interface() }

// row is a row of numbers that look picked, the same at each run.
func row(seed uint64) func(below int) int {
	state := seed
	return func(below int) int {
		state = state*6364136223846793005 + 1442695040888963407
		return int((state >> 33) % uint64(below))
	}
}

func pattern(size, seed int) []byte {
	out := make([]byte, size)
	for i := range out {
		out[i] = byte(i*7 + i>>8 + seed)
	}
	return out
}

func numbers(t reflect.Type) []int64 {
	switch t.Kind() {
	case reflect.Uint8:
		return []int64{1, 2, 3, 63, 64, 127, 128, 254, 255}
	case reflect.Int:
		return []int64{1, -1, 63, 64, -64, -65, 8191, 8192, 1 << 30, math.MaxInt, math.MinInt, math.MaxInt - 1, math.MinInt + 1}
	}
	return []int64{1, -1, 63, 64, -64, -65, 8191, 8192, 1 << 40, math.MaxInt64, math.MinInt64, math.MaxInt64 - 1, math.MinInt64 + 1}
}

func numberAs(t reflect.Type, n int64) reflect.Value {
	return reflect.ValueOf(n).Convert(t)
}

func listOf(t reflect.Type, of ...reflect.Value) reflect.Value {
	return reflect.Append(reflect.MakeSlice(t, 0, len(of)), of...)
}

// variants are values that are not zero, each with one thing in it set alone.
func variants(t reflect.Type) []reflect.Value {
	var out []reflect.Value
	switch {
	case t.Kind() == reflect.Bool:
		return []reflect.Value{reflect.ValueOf(true)}
	case t.Kind() == reflect.String || isBytes(t):
		for _, size := range []int{1, 2, 127, 128, 300} {
			out = append(out, reflect.ValueOf(pattern(size, size)).Convert(t))
		}
		for _, s := range []string{"\x00", "a", "\xff\xfe", "ä"} {
			out = append(out, reflect.ValueOf(s).Convert(t))
		}
	case t.Kind() == reflect.Slice:
		zero := reflect.Zero(t.Elem())
		of := variants(t.Elem())
		for _, v := range of {
			out = append(out, listOf(t, v))
		}
		out = append(out, listOf(t, zero), listOf(t, zero, of[0]), listOf(t, of[0], zero), listOf(t, zero, zero, zero))
		out = append(out, listOf(t, slices.Repeat([]reflect.Value{zero}, 127)...), listOf(t, slices.Repeat([]reflect.Value{zero}, 128)...))
	case t.Kind() == reflect.Struct:
		for i := range t.NumField() {
			for _, v := range variants(t.Field(i).Type) {
				x := reflect.New(t).Elem()
				x.Field(i).Set(v)
				out = append(out, x)
			}
		}
	default:
		for _, n := range numbers(t) {
			out = append(out, numberAs(t, n))
		}
	}
	return out
}

// full is a value with all in it set, lists of count things; number picks the numbers.
func full(t reflect.Type, count int, number func(reflect.Type) int64) reflect.Value {
	v := reflect.New(t).Elem()
	switch {
	case t.Kind() == reflect.Bool:
		v.SetBool(true)
	case t.Kind() == reflect.String || isBytes(t):
		n := number(t)
		v.Set(reflect.ValueOf(pattern(1+int(uint64(n)%3), int(n))).Convert(t))
	case t.Kind() == reflect.Slice:
		for range count {
			v.Set(reflect.Append(v, full(t.Elem(), count, number)))
		}
	case t.Kind() == reflect.Struct:
		for i := range t.NumField() {
			v.Field(i).Set(full(t.Field(i).Type, count, number))
		}
	default:
		v.Set(numberAs(t, number(t)))
	}
	return v
}

// counted makes all numbers of a thing unlike.
func counted() func(reflect.Type) int64 {
	n := int64(0)
	return func(reflect.Type) int64 {
		n++
		return n % 200
	}
}

func least(t reflect.Type) int64 { return slices.Min(append(numbers(t), 0)) }

func greatest(t reflect.Type) int64 { return slices.Max(numbers(t)) }

// random is a value of the type, whatever it be, lists of at most three.
func random(t reflect.Type, pick func(int) int) reflect.Value {
	v := reflect.New(t).Elem()
	switch {
	case t.Kind() == reflect.Bool:
		v.SetBool(pick(2) == 1)
	case t.Kind() == reflect.String || isBytes(t):
		v.Set(reflect.ValueOf(pattern(pick(5), pick(256))).Convert(t))
	case t.Kind() == reflect.Slice:
		for range pick(4) {
			v.Set(reflect.Append(v, random(t.Elem(), pick)))
		}
	case t.Kind() == reflect.Struct:
		for i := range t.NumField() {
			v.Field(i).Set(random(t.Field(i).Type, pick))
		}
	default:
		list := append(numbers(t), 0, 0, 5)
		v.Set(numberAs(t, list[pick(len(list))]))
	}
	return v
}

// some are things of a kind that the tests of wrong bytes begin with.
func (k kind) some() []any {
	out := []any{k.none(), full(k.of, 1, counted()).Interface(), full(k.of, 1, least).Interface(), full(k.of, 1, greatest).Interface()}
	pick := row(uint64(k.mark))
	for range 6 {
		out = append(out, random(k.of, pick).Interface())
	}
	return out
}

// all are the zero thing, each thing set alone, and all of them set.
func (k kind) all() []any {
	out := k.some()
	for _, v := range variants(k.of) {
		out = append(out, v.Interface())
	}
	for count := range 4 {
		out = append(out, full(k.of, count, counted()).Interface())
	}
	pick := row(100 + uint64(k.mark))
	for range 200 {
		out = append(out, random(k.of, pick).Interface())
	}
	return out
}

func (k kind) refuses(t *testing.T, what string, b []byte) {
	t.Helper()
	if x, e := k.get(b); e != api.ErrWire || !same(x, k.none()) {
		t.Errorf("Get%s of %s: %v %d, want nothing and ErrWire; bytes % x", k.name, what, x, e, b[:min(len(b), 60)])
	}
}

func (k kind) tooLong(t *testing.T, what string, x any) {
	t.Helper()
	if b, e := k.put(x); e != api.ErrLong || len(b) > 0 {
		t.Errorf("Put%s of %s: %d bytes, %d, want none and ErrLong", k.name, what, len(b), e)
	}
}

// around puts a thing, holds its bytes against the rule, and gets it back.
func (k kind) around(t *testing.T, x any) []byte {
	t.Helper()
	b, e := k.put(x)
	if want := k.ruled(x); e != api.OK || !bytes.Equal(b, want) {
		t.Errorf("Put%s(%.300v): % x, %d, want % x", k.name, x, b[:min(len(b), 60)], e, want[:min(len(want), 60)])
		return nil
	}
	back, e := k.get(b)
	if e != api.OK || !same(back, x) {
		t.Errorf("Get%s of the bytes of %.300v: %.300v %d", k.name, x, back, e)
	}
	return b
}

// againstRead holds Get against the second reader, and what it tells against Put.
func (k kind) againstRead(t *testing.T, what string, b []byte) {
	t.Helper()
	want, right := k.read(b)
	if !right {
		k.refuses(t, what, b)
		return
	}
	got, e := k.get(b)
	if e != api.OK || !same(got, want) {
		t.Errorf("Get%s of %s: %v %d, want %v; bytes % x", k.name, what, got, e, want, b)
		return
	}
	if again, e := k.put(got); e != api.OK || !bytes.Equal(again, b) {
		t.Errorf("Put%s of what Get answered of %s: % x %d, want % x", k.name, what, again, e, b)
	}
}

func TestExamples(t *testing.T) {
	retain := []byte{1, 4, 0, 0, 0, 0, 10}
	if b, e := PutPart(api.PartCommand{Kind: api.PartRetain, Offset: 5}); e != api.OK || !bytes.Equal(b, retain) {
		t.Errorf("PutPart: % x %d", b, e)
	}
	if c, e := GetPart(retain); e != api.OK || !same(c, api.PartCommand{Kind: 2, Offset: 5}) {
		t.Errorf("GetPart: %v %d", c, e)
	}
	if b, e := PutRaft(api.Raft{}); e != api.OK || !bytes.Equal(b, append([]byte{7}, make([]byte, 12)...)) {
		t.Errorf("PutRaft: % x %d", b, e)
	}
	part, meta := kinds()[0], kinds()[1]
	part.refuses(t, "01", []byte{1})
	part.refuses(t, "none", nil)
	part.refuses(t, "one more", append(bytes.Clone(retain), 0))
	part.refuses(t, "8A 00", []byte{1, 4, 0, 0, 0, 0, 0x8A, 0})
	meta.refuses(t, "a partition's command", retain)
}

// written are things with all fields set, one of each kind, and their bytes, worked out by hand.
func written() map[string][2]any {
	batch := api.Batch{Pid: 1, Epoch: -1, First: 64, Records: [][]byte{{0xAA, 0xBB}, {}}}
	place := api.Place{Topic: "t", Part: 3}
	command := api.MetaCommand{
		Kind: 255, Group: "g", Name: "nn", N: 4, Topics: []string{"u", ""}, Place: place,
		Offset: 5, Now: 6, Client: 7, Call: 8,
	}
	answer := api.MetaAnswer{Err: 282, Pid: 9, Epoch: 10, N: 11, Phase: 3, Places: []api.Place{place}}
	commandBytes := []byte{0xFE, 3, 1, 'g', 2, 'n', 'n', 8, 2, 1, 'u', 0, 1, 't', 6, 10, 12, 14, 16}
	answerBytes := []byte{0xB4, 4, 18, 20, 22, 6, 1, 1, 't', 6}
	batchBytes := []byte{2, 1, 0x80, 1, 2, 2, 0xAA, 0xBB, 0}
	with := func(parts ...[]byte) []byte { return bytes.Join(parts, nil) }
	return map[string][2]any{
		"Part": {api.PartCommand{Kind: 1, Batch: batch, Offset: -2}, with([]byte{1, 2}, batchBytes, []byte{3})},
		"Meta": {command, with([]byte{2}, commandBytes)},
		"Parts": {
			api.PartState{
				Start: 1, End: 2, Records: [][]byte{{7}},
				Producers: []api.Producer{{Pid: 3, Epoch: 4, Next: 5, Recent: []api.Recent{{First: 6, Count: 7, Offset: 8}}}},
			},
			[]byte{3, 2, 4, 1, 1, 7, 1, 6, 8, 10, 1, 12, 14, 16},
		},
		"Metas": {
			api.MetaState{
				Now: 1, Topics: []api.Topic{{Name: "t", Parts: 2}}, Writers: []api.Writer{{Name: "w", Pid: 3, Epoch: 4}},
				Groups: []api.Group{{
					Name: "g", Generation: 5, Phase: 1, Until: 6,
					Members: []api.Member{{Sub: api.Sub{Member: "m", Topics: []string{"t"}}, Seen: 7, Back: true}},
					Shares:  []api.Share{{Member: "m", Places: []api.Place{place}}},
					Offsets: []api.Kept{{Place: place, Offset: 8}},
				}},
				Callers: []api.Caller{{Client: 9, Floor: 10, Calls: []api.Told{{Call: 11, Answer: answer}}}},
			},
			with([]byte{4, 2, 1, 1, 't', 4, 1, 1, 'w', 6, 8, 1, 1, 'g', 10, 2, 12, 1, 1, 'm', 1, 1, 't', 14, 1},
				[]byte{1, 1, 'm', 1, 1, 't', 6, 1, 1, 't', 6, 16, 1, 18, 20, 1, 22}, answerBytes),
		},
		"Request": {
			api.Request{Kind: 6, Client: 1, Call: 2, Topic: "t", Part: 3, Batch: batch, Offset: 4, Most: 5, Bytes: 6, Meta: command},
			with([]byte{5, 12, 2, 4, 1, 't', 6}, batchBytes, []byte{8, 10, 12}, commandBytes),
		},
		"Response": {
			api.Response{
				Kind: 5, Client: 1, Call: 2, Err: 3, Leader: 4, Offset: 5, Start: 6, End: 7, Again: true,
				Records: [][]byte{{1}, {2}}, Meta: answer,
			},
			with([]byte{6, 10, 2, 4, 6, 8, 10, 12, 14, 1, 2, 1, 1, 1, 2}, answerBytes),
		},
		"Raft": {
			api.Raft{
				Group: "g", Kind: 3, From: 1, To: 2, Term: 4, Index: 5, LogTerm: 6, Commit: 7, Round: 8, Ok: true,
				Entries: []api.Entry{{Term: 9, Data: []byte{0xDD}}}, Snap: []byte{0xEE, 0xFF},
			},
			[]byte{7, 1, 'g', 6, 2, 4, 8, 10, 12, 14, 16, 1, 1, 18, 1, 0xDD, 2, 0xEE, 0xFF},
		},
	}
}

func TestWrittenBytes(t *testing.T) {
	list := written()
	for _, k := range kinds() {
		thing, want := list[k.name][0], list[k.name][1].([]byte)
		if b := k.around(t, thing); !bytes.Equal(b, want) {
			t.Errorf("Put%s: % x, want % x", k.name, b, want)
		}
	}
}

func TestZeroThings(t *testing.T) {
	sizes := []int{7, 12, 5, 6, 24, 17, 13}
	for i, k := range kinds() {
		want := make([]byte, sizes[i])
		want[0] = k.mark
		if b := k.around(t, k.none()); !bytes.Equal(b, want) {
			t.Errorf("Put%s of zero: % x, want % x", k.name, b, want)
		}
	}
}

func TestEachFieldAloneAndAll(t *testing.T) {
	for _, k := range kinds() {
		for _, x := range k.all() {
			k.around(t, x)
		}
	}
}

// Unlike things have unlike bytes, of whatever kinds.
func TestUnlikeBytes(t *testing.T) {
	seen := map[string]any{}
	for _, k := range kinds() {
		for _, x := range k.all() {
			b, _ := k.put(x)
			if old, there := seen[string(b)]; there && !same(old, x) {
				t.Errorf("%s: %.200v and %.200v are both % x", k.name, old, x, b[:min(len(b), 60)])
			}
			seen[string(b)] = x
		}
	}
}

// stretched are the ways to make a thing as long as one likes: each text or bytes of n bytes, each list of n things of one byte.
func stretched(t reflect.Type) []func(n int) reflect.Value {
	var out []func(int) reflect.Value
	switch {
	case t.Kind() == reflect.String || isBytes(t):
		out = append(out, func(n int) reflect.Value { return reflect.ValueOf(pattern(n, 1)).Convert(t) })
	case t.Kind() == reflect.Slice:
		for _, f := range stretched(t.Elem()) {
			out = append(out, func(n int) reflect.Value { return listOf(t, f(n)) })
		}
		if t.Elem().Kind() == reflect.String || isBytes(t.Elem()) {
			out = append(out, func(n int) reflect.Value { return reflect.MakeSlice(t, n, n) })
		}
	case t.Kind() == reflect.Struct:
		for i := range t.NumField() {
			for _, f := range stretched(t.Field(i).Type) {
				out = append(out, func(n int) reflect.Value {
					x := reflect.New(t).Elem()
					x.Field(i).Set(f(n))
					return x
				})
			}
		}
	}
	return out
}

func TestTheLongest(t *testing.T) {
	ways := []int{2, 5, 2, 10, 8, 3, 3}
	for i, k := range kinds() {
		list := stretched(k.of)
		if len(list) != ways[i] {
			t.Errorf("%s: %d ways to stretch it, want %d", k.name, len(list), ways[i])
		}
		for way, f := range list {
			// A length of 20000 has as many bytes as that of the longest.
			n := 20000 + k.most - len(k.ruled(f(20000).Interface()))
			if b := k.around(t, f(n).Interface()); len(b) != k.most {
				t.Errorf("%s, way %d: %d bytes, want %d", k.name, way, len(b), k.most)
			}
			k.around(t, f(n-1).Interface())
			for _, more := range []int{1, 1000} {
				x := f(n + more).Interface()
				k.tooLong(t, "more than the most", x)
				k.refuses(t, "more than the most", k.ruled(x))
			}
		}
	}
}

// repeated are the ways to make a list of a thing long whose things have more than one byte.
func repeated(t reflect.Type) []func(n int) reflect.Value {
	var out []func(int) reflect.Value
	switch {
	case t.Kind() == reflect.Slice && t.Elem().Kind() == reflect.Struct:
		for _, f := range repeated(t.Elem()) {
			out = append(out, func(n int) reflect.Value { return listOf(t, f(n)) })
		}
		out = append(out, func(n int) reflect.Value { return reflect.MakeSlice(t, n, n) })
	case t.Kind() == reflect.Struct:
		for i := range t.NumField() {
			for _, f := range repeated(t.Field(i).Type) {
				out = append(out, func(n int) reflect.Value {
					x := reflect.New(t).Elem()
					x.Field(i).Set(f(n))
					return x
				})
			}
		}
	}
	return out
}

func TestTheLongestLists(t *testing.T) {
	for _, k := range kinds() {
		for _, f := range repeated(k.of) {
			one := len(k.ruled(f(2).Interface())) - len(k.ruled(f(1).Interface()))
			n := (k.most - len(k.ruled(f(0).Interface()))) / one
			// A count of many has more bytes than that of none.
			for len(k.ruled(f(n).Interface())) > k.most {
				n--
			}
			k.around(t, f(n).Interface())
			k.tooLong(t, "a list of one more", f(n+1).Interface())
			k.refuses(t, "a list of one more", k.ruled(f(n+1).Interface()))
			k.tooLong(t, "a list of very many", f(70000).Interface())
		}
	}
}

func allocated(call func()) uint64 {
	var before, after runtime.MemStats
	runtime.ReadMemStats(&before)
	call()
	runtime.ReadMemStats(&after)
	return after.TotalAlloc - before.TotalAlloc
}

// What is far too long is refused without putting all of it; what says far too much is refused without room for it.
func TestNoRoomForWhatIsRefused(t *testing.T) {
	record := make([]byte, 1<<20)
	text := strings.Repeat("x", 1<<20)
	long := map[string]func() api.Errno{
		"records": func() api.Errno {
			_, e := PutParts(api.PartState{Records: slices.Repeat([][]byte{record}, 256)})
			return e
		},
		"topics": func() api.Errno {
			_, e := PutMeta(api.MetaCommand{Topics: slices.Repeat([]string{text}, 256)})
			return e
		},
		"entries": func() api.Errno {
			_, e := PutRaft(api.Raft{Entries: slices.Repeat([]api.Entry{{Data: record}}, 256), Snap: record})
			return e
		},
	}
	bad := map[string]func() api.Errno{
		"a count of more than is there": func() api.Errno {
			_, e := GetParts(append(binary.AppendUvarint([]byte{3, 0, 0}, 1<<40), 0, 0))
			return e
		},
		"a list whose first thing is wrong": func() api.Errno {
			_, e := GetMetas(append(binary.AppendUvarint([]byte{4, 0, 0, 0}, 59000), slices.Repeat([]byte{0xFF}, 59900)...))
			return e
		},
	}
	for what, call := range bad {
		var e api.Errno
		if used := allocated(func() { e = call() }); e != api.ErrWire || used > 1<<20 {
			t.Errorf("%s: %d, with %d bytes of memory", what, e, used)
		}
	}
	for what, call := range long {
		var e api.Errno
		if used := allocated(func() { e = call() }); e != api.ErrLong || used > 1<<20 {
			t.Errorf("%s: %d, with %d bytes of memory", what, e, used)
		}
	}
}

func TestCutAndBehind(t *testing.T) {
	for _, k := range kinds() {
		k.refuses(t, "no bytes", nil)
		k.refuses(t, "no bytes", []byte{})
		for _, x := range k.some() {
			b := k.ruled(x)
			for end := range b {
				k.refuses(t, "bytes that are cut", b[:end])
				// What is behind the cut is still there in the spare room of b[:end]; here it is not.
				k.refuses(t, "bytes that are cut", bytes.Clone(b[:end]))
			}
			for _, behind := range [][]byte{{0}, {1}, {0xFF}, {0, 0}, b} {
				k.refuses(t, "bytes with more behind", append(bytes.Clone(b), behind...))
			}
			k.refuses(t, "bytes with one ahead", append([]byte{k.mark}, b...))
		}
	}
}

func TestEachByteChanged(t *testing.T) {
	for _, k := range kinds() {
		for _, x := range k.some()[:3] {
			b := k.ruled(x)
			for at := range b {
				old := b[at]
				for to := range 256 {
					b[at] = byte(to)
					k.againstRead(t, "a byte changed", b)
				}
				b[at] = old
			}
		}
	}
}

func TestOtherKinds(t *testing.T) {
	for _, k := range kinds() {
		for _, other := range kinds() {
			if other.mark == k.mark {
				continue
			}
			for _, x := range other.some() {
				k.refuses(t, "another kind", other.ruled(x))
			}
		}
		for mark := range 256 {
			if byte(mark) == k.mark {
				continue
			}
			for _, x := range k.some() {
				b := k.ruled(x)
				b[0] = byte(mark)
				k.refuses(t, "another mark", b)
			}
		}
	}
}

// swapped hands each piece of a thing to other, and hands on the thing's bytes with each of the answers in its place.
func (k kind) swapped(x any, other func(piece) [][]byte, each func([]byte)) {
	list := k.pieces(x)
	for i, p := range list {
		for _, b := range other(p) {
			list[i].b = b
			each(joined(list))
		}
		list[i].b = p.b
	}
}

// longer are forms of a number with more bytes than it needs.
func longer(n []byte) [][]byte {
	var out [][]byte
	b := bytes.Clone(n)
	for range 12 {
		b[len(b)-1] |= 0x80
		b = append(b, 0)
		out = append(out, bytes.Clone(b))
	}
	return out
}

// over are numbers above the greatest one, or without an end.
func over() [][]byte {
	nine := slices.Repeat([]byte{0xFF}, 9)
	return [][]byte{
		append(bytes.Clone(nine), 2), append(bytes.Clone(nine), 0x7F), append(bytes.Clone(nine), 0x81, 0),
		append(bytes.Clone(nine), 0xFF, 1), slices.Repeat([]byte{0xFF}, 40), slices.Repeat([]byte{0x80}, 10),
	}
}

func TestNumbersInOtherForms(t *testing.T) {
	for _, k := range kinds() {
		for _, x := range k.some() {
			k.swapped(x, func(p piece) [][]byte {
				if p.what != aNumber && p.what != aSize {
					return nil
				}
				return append(longer(p.b), over()...)
			}, func(b []byte) { k.refuses(t, "a number in another form", b) })
		}
	}
}

// An int need not hold what an int64 does.
func notHeld(t reflect.Type) []int64 {
	wide := []int64{math.MaxInt64, math.MinInt64, 1 << 31, 1 << 32, 1<<32 + 1, -1<<31 - 1}
	switch {
	case t.Kind() == reflect.Uint8:
		return append(wide, 256, 257, 511, 512, 1<<16, -1, -2, -128, -256, -257)
	case t.Kind() == reflect.Int && math.MaxInt < math.MaxInt64:
		return wide
	}
	return nil
}

func TestNumbersThatTheirTypeDoesNotHold(t *testing.T) {
	found := 0
	for _, k := range kinds() {
		for _, x := range k.some() {
			k.swapped(x, func(p piece) [][]byte {
				var out [][]byte
				if p.what == aNumber {
					for _, n := range notHeld(p.of) {
						out = append(out, binary.AppendVarint(nil, n))
					}
				}
				return out
			}, func(b []byte) {
				found++
				k.refuses(t, "a number that its type does not hold", b)
			})
		}
	}
	if found == 0 {
		t.Error("no number was asked for")
	}
}

func TestFlagsThatAreNone(t *testing.T) {
	found := 0
	for _, k := range kinds() {
		for _, x := range k.some() {
			k.swapped(x, func(p piece) [][]byte {
				if p.what != aFlag {
					return nil
				}
				out := [][]byte{{0x80, 0}, {0x81, 0}}
				for b := 2; b < 256; b++ {
					out = append(out, []byte{byte(b)})
				}
				return out
			}, func(b []byte) {
				found++
				k.refuses(t, "a flag that is none", b)
			})
		}
	}
	if found == 0 {
		t.Error("no flag was asked for")
	}
}

func TestCountsAndLengthsThatAreWrong(t *testing.T) {
	great := []uint64{1 << 16, 1 << 20, 1<<31 - 1, 1 << 31, 1 << 32, 1 << 40, 1<<62 - 1, 1 << 62, 1<<63 - 1, 1 << 63, 1<<63 + 1, math.MaxUint64 - 1, math.MaxUint64}
	for _, k := range kinds() {
		for _, x := range k.some() {
			whole := uint64(len(k.ruled(x)))
			sizes := func(list ...uint64) func(piece) [][]byte {
				return func(p piece) [][]byte {
					var out [][]byte
					for _, n := range list {
						if p.what == aSize {
							out = append(out, binary.AppendUvarint(nil, n))
						}
					}
					return out
				}
			}
			k.swapped(x, sizes(great...), func(b []byte) { k.refuses(t, "a size that is far too great", b) })
			k.swapped(x, sizes(whole, whole+1, 2*whole), func(b []byte) { k.refuses(t, "a size above all that is there", b) })
			k.swapped(x, func(p piece) [][]byte {
				n, _ := binary.Uvarint(p.b)
				if p.what != aSize {
					return nil
				}
				return sizes(n+1, n+2, n-1, n/2, 0, 1, 2, 3, 100)(p)
			}, func(b []byte) { k.againstRead(t, "a size that is another one", b) })
		}
	}
}

// A length of all that is left, and one more than that, where nothing else is wrong.
func TestLengthsToTheEnd(t *testing.T) {
	head := make([]byte, 12)
	head[0] = 7
	for _, size := range []int{0, 1, 2, 127, 128, 1000, 65530} {
		body := append(binary.AppendUvarint(bytes.Clone(head), uint64(size)), pattern(size, 3)...)
		if m, e := GetRaft(body); e != api.OK || !bytes.Equal(m.Snap, pattern(size, 3)) {
			t.Errorf("a snapshot of %d bytes: %d", size, e)
		}
		kinds()[6].refuses(t, "a length of one more than is left", append(binary.AppendUvarint(bytes.Clone(head), uint64(size+1)), pattern(size, 3)...))
	}
}

func TestBytesOfAllKinds(t *testing.T) {
	pick := row(5)
	for _, k := range kinds() {
		for range 20000 {
			b := make([]byte, 1+pick(40))
			for i := range b {
				b[i] = byte(pick(6))
				if pick(8) == 0 {
					b[i] = byte(pick(256))
				}
			}
			b[0] = k.mark
			k.againstRead(t, "any bytes", b)
		}
		// Mostly noughts behind the mark: those that are right are found, too.
		right := 0
		for size := range 60 {
			for range 20 {
				b := make([]byte, 1+size)
				b[0] = k.mark
				if size > 0 {
					b[1+pick(size)] = byte(pick(8))
				}
				k.againstRead(t, "noughts", b)
				if _, ok := k.read(b); ok {
					right++
				}
			}
		}
		if right == 0 {
			t.Errorf("%s: no bytes were right", k.name)
		}
	}
}

// Bytes of a thing, with pieces left out, doubled, or taken from another thing of the kind.
func TestPiecesMixed(t *testing.T) {
	for _, k := range kinds() {
		things := k.some()
		pick := row(77)
		for range 3000 {
			list := k.pieces(things[pick(len(things))])
			other := k.pieces(things[pick(len(things))])
			at, from := pick(len(list)), pick(len(other))
			switch pick(3) {
			case 0:
				list = slices.Delete(list, at, at+1)
			case 1:
				list = slices.Insert(list, at, list[at])
			case 2:
				list = append(list[:at:at], other[from:]...)
			}
			k.againstRead(t, "pieces mixed", joined(list))
		}
	}
}

// roomy is a deep copy of a value whose lists have spare room that is filled, in a way that a change is seen.
func roomy(v reflect.Value) reflect.Value {
	out := reflect.New(v.Type()).Elem()
	switch v.Kind() {
	case reflect.Slice:
		const spare = 3
		n := v.Len()
		list := reflect.MakeSlice(v.Type(), n+spare, n+spare)
		for i := range n {
			list.Index(i).Set(roomy(v.Index(i)))
		}
		for i := range spare {
			list.Index(n + i).Set(full(v.Type().Elem(), 1, func(reflect.Type) int64 { return int64(0xA0 + i) }))
		}
		out.Set(list.Slice(0, n))
	case reflect.Struct:
		for i := range v.NumField() {
			out.Field(i).Set(roomy(v.Field(i)))
		}
	default:
		out.Set(v)
	}
	return out
}

// lists hands on each list of a value, in the whole of its room.
func lists(v reflect.Value, each func(reflect.Value)) {
	switch v.Kind() {
	case reflect.Slice:
		v = v.Slice(0, v.Cap())
		each(v)
		for i := range v.Len() {
			lists(v.Index(i), each)
		}
	case reflect.Struct:
		for i := range v.NumField() {
			lists(v.Field(i), each)
		}
	}
}

// roomOf is all that a value's lists hold, their spare room too, by the rule for bytes.
func roomOf(v reflect.Value) []byte {
	out := ruledOf(v)
	lists(v, func(l reflect.Value) { out = append(out, ruledOf(l)...) })
	return out
}

// spoil changes whatever can be changed in a value's lists, their spare room too.
func spoil(v reflect.Value) {
	lists(v, func(l reflect.Value) {
		for i := range l.Len() {
			if l.Index(i).Kind() == reflect.Uint8 {
				l.Index(i).SetUint(l.Index(i).Uint() ^ 0xFF)
			}
		}
	})
	lists(v, func(l reflect.Value) {
		for i := range l.Len() {
			if l.Index(i).Kind() != reflect.Uint8 {
				l.Index(i).SetZero()
			}
		}
	})
}

type room struct{ from, to uintptr }

func rooms(vs ...reflect.Value) []room {
	var out []room
	for _, v := range vs {
		lists(v, func(l reflect.Value) {
			if l.Cap() > 0 {
				from := l.Pointer()
				out = append(out, room{from, from + uintptr(l.Cap())*l.Type().Elem().Size()})
			}
		})
	}
	return out
}

// apart says whether no two lists of the values share memory, spare room too.
func apart(vs ...reflect.Value) bool {
	list := rooms(vs...)
	slices.SortFunc(list, func(a, b room) int {
		if a.from < b.from {
			return -1
		}
		return 1
	})
	for i := 1; i < len(list); i++ {
		if list[i].from < list[i-1].to {
			return false
		}
	}
	return true
}

func TestPutLeavesWhatItIsHanded(t *testing.T) {
	for _, k := range kinds() {
		for _, x := range append(k.some(), full(k.of, 2, counted()).Interface()) {
			handed := roomy(reflect.ValueOf(x))
			before := roomOf(handed)
			b, e := k.put(handed.Interface())
			if e != api.OK || !bytes.Equal(roomOf(handed), before) {
				t.Errorf("Put%s changed what it was handed, or refused it: %d", k.name, e)
			}
			if !apart(handed, reflect.ValueOf(b)) {
				t.Errorf("Put%s answers what it was handed", k.name)
			}
			want := bytes.Clone(b)
			spoil(handed)
			if !bytes.Equal(b, want) {
				t.Errorf("Put%s keeps what it was handed", k.name)
			}
		}
	}
}

func TestPutThatIsTooLongLeavesWhatItIsHanded(t *testing.T) {
	for _, k := range kinds() {
		for _, f := range stretched(k.of) {
			handed := roomy(f(70000))
			before := roomOf(handed)
			if b, e := k.put(handed.Interface()); e != api.ErrLong || len(b) > 0 || !bytes.Equal(roomOf(handed), before) {
				t.Errorf("Put%s: %d bytes, %d, or it changed what it was handed", k.name, len(b), e)
			}
		}
	}
}

func TestGetLeavesWhatItIsHanded(t *testing.T) {
	for _, k := range kinds() {
		for _, x := range append(k.some(), full(k.of, 2, counted()).Interface(), full(k.of, 3, counted()).Interface()) {
			ruled := k.ruled(x)
			for _, b := range [][]byte{ruled, ruled[:len(ruled)-1], append(bytes.Clone(ruled), 1)} {
				handed := roomy(reflect.ValueOf(b)).Bytes()
				before := roomOf(reflect.ValueOf(handed))
				got, e := k.get(handed)
				if !bytes.Equal(roomOf(reflect.ValueOf(handed)), before) {
					t.Errorf("Get%s changed what it was handed", k.name)
				}
				if !apart(reflect.ValueOf(handed), reflect.ValueOf(got)) {
					t.Errorf("Get%s: two lists share memory", k.name)
				}
				spoil(reflect.ValueOf(handed))
				if e == api.OK && !same(got, x) {
					t.Errorf("Get%s keeps what it was handed: %v, want %v", k.name, got, x)
				}
			}
		}
	}
}

// Two answers share nothing: changing the one leaves the other as it was.
func TestAnswersShareNothing(t *testing.T) {
	for _, k := range kinds() {
		for _, x := range k.some() {
			first, _ := k.put(x)
			second, _ := k.put(x)
			one, _ := k.get(first)
			two, _ := k.get(first)
			if !apart(reflect.ValueOf(first), reflect.ValueOf(second), reflect.ValueOf(one), reflect.ValueOf(two)) {
				t.Errorf("%s: answers share memory", k.name)
			}
			spoil(reflect.ValueOf(first))
			spoil(reflect.ValueOf(one))
			if again, _ := k.put(x); !bytes.Equal(second, k.ruled(x)) || !bytes.Equal(again, second) || !same(two, x) {
				t.Errorf("%s: a change of one answer changed another", k.name)
			}
		}
	}
}

// An empty list and none are the same (R6).
func TestNoneAndEmpty(t *testing.T) {
	var emptied func(v reflect.Value) reflect.Value
	emptied = func(v reflect.Value) reflect.Value {
		out := reflect.New(v.Type()).Elem()
		switch v.Kind() {
		case reflect.Slice:
			out.Set(reflect.MakeSlice(v.Type(), v.Len(), v.Len()+1))
			for i := range v.Len() {
				out.Index(i).Set(emptied(v.Index(i)))
			}
		case reflect.Struct:
			for i := range v.NumField() {
				out.Field(i).Set(emptied(v.Field(i)))
			}
		default:
			out.Set(v)
		}
		return out
	}
	for _, k := range kinds() {
		for _, x := range k.some() {
			a, _ := k.put(x)
			b, e := k.put(emptied(reflect.ValueOf(x)).Interface())
			if e != api.OK || !bytes.Equal(a, b) {
				t.Errorf("%s: % x and % x", k.name, a, b)
			}
		}
	}
}

// The room that the limits leave: an entry, and a snapshot, of 60000 bytes goes into a message with all else at its greatest.
func TestRoomForAnEntryAndASnapshot(t *testing.T) {
	m := full(reflect.TypeFor[api.Raft](), 0, greatest).Interface().(api.Raft)
	m.Group = strings.Repeat("g", 2*api.MaxName)
	m.Snap = nil
	m.Entries = []api.Entry{{Term: math.MaxInt, Data: pattern(api.MaxData, 1)}}
	kinds()[6].around(t, m)
	m.Entries, m.Snap = nil, pattern(api.MaxData, 2)
	kinds()[6].around(t, m)
}
