package pack

import (
	"encoding/hex"
	"fmt"
	"math/rand"
	"reflect"
	"strings"
	"testing"

	"moidore/api"
	"moidore/wire"
)

const (
	least = -1 << 63
	most  = 1<<63 - 1
)

// h is a hash whose first and last bytes are these.
func h(first, last byte) api.Hash {
	var x api.Hash
	x[0], x[31] = first, last
	return x
}

// over is a node ahead of kids.
func over(n api.Node, kids ...api.Term) api.Term {
	n.Kids = len(kids)
	l := []api.Node{n}
	for _, k := range kids {
		l = append(l, k.Nodes...)
	}
	return api.Term{Nodes: l}
}

func num(n int64) api.Term         { return over(api.Node{Kind: api.TermInt, Int: n}) }
func text(s string) api.Term       { return over(api.Node{Kind: api.TermBytes, Bytes: s}) }
func realOf(a uint64) api.Term     { return over(api.Node{Kind: api.TermReal, Bits: a}) }
func list(k ...api.Term) api.Term  { return over(api.Node{Kind: api.TermList}, k...) }
func pairs(k ...api.Term) api.Term { return over(api.Node{Kind: api.TermMap}, k...) }
func tag(n int64, k ...api.Term) api.Term {
	return over(api.Node{Kind: api.TermTag, Int: n}, k...)
}
func nodes(l ...api.Node) api.Term { return api.Term{Nodes: l} }

// nums is so many terms, ints that rise.
func nums(n int) []api.Term {
	l := make([]api.Term, n)
	for i := range l {
		l[i] = num(int64(i))
	}
	return l
}

// nested is a term that is so deep, of lists of one.
func nested(deep int) api.Term {
	t := num(7)
	for range deep - 1 {
		t = list(t)
	}
	return t
}

func as(policy byte, name string, n int64) api.Asset {
	return api.Asset{Policy: h(policy, 0), Name: name, Amount: n}
}

func val(coin int64, l ...api.Asset) api.Value { return api.Value{Coin: coin, Assets: l} }

// some is so many assets that rise.
func some(n int) []api.Asset {
	var l []api.Asset
	for i := range n {
		l = append(l, as(byte(i/2), strings.Repeat("x", i%2*32), int64(i+1)))
	}
	return l
}

func tot(policy byte, name string, hi int64, lo uint64) api.Total {
	return api.Total{Policy: h(policy, 0), Name: name, Sum: api.Wide{Hi: hi, Lo: lo}}
}

func ref(first, last byte, place int) api.Ref { return api.Ref{Tx: h(first, last), Place: place} }

// plainOut is an output to a key, without a datum.
func plainOut(v api.Value) api.Output {
	return api.Output{Address: api.Address{Hash: h(1, 2)}, Value: v}
}

func hashOut(v api.Value, x api.Hash) api.Output {
	return api.Output{Address: api.Address{Program: true, Hash: h(3, 4)}, Value: v, Datum: api.DatumHash, Hash: x}
}

func termOut(v api.Value, t api.Term) api.Output {
	return api.Output{Address: api.Address{Program: true, Hash: h(5, 6)}, Value: v, Datum: api.DatumInline, Term: t}
}

func entry(x api.Ref, o api.Output) api.Entry { return api.Entry{Ref: x, Output: o} }

// at is an entry of a simple output.
func at(x api.Ref) api.Entry { return entry(x, plainOut(val(1))) }

func entries(l ...api.Entry) []api.Entry { return l }

// told is a thing as it is told of.
func told(x any) string { return strings.ReplaceAll(fmt.Sprintf("%#v", x), "(nil)", "{}") }

// same says whether two things are: lists without elements are one with nil ones (R6).
func same[T any](a, b T) bool { return sameOf(reflect.ValueOf(a), reflect.ValueOf(b)) }

func sameOf(v, w reflect.Value) bool {
	switch v.Kind() {
	case reflect.Struct:
		for i := range v.NumField() {
			if !sameOf(v.Field(i), w.Field(i)) {
				return false
			}
		}
		return true
	case reflect.Slice:
		for i := range v.Len() {
			if i == w.Len() || !sameOf(v.Index(i), w.Index(i)) {
				return false
			}
		}
		return v.Len() == w.Len()
	}
	return v.Interface() == w.Interface()
}

// short is a text that is not too long to be shown.
func short(s string) string {
	if len(s) > 400 {
		return s[:400] + ".."
	}
	return s
}

// sort is a sort of things: its calls, the chapter's table, and examples.
type sort[T any] struct {
	name   string
	put    func(*wire.Writer, T)
	get    func(*wire.Reader) T
	bytes  func(T) []byte      // as the table says, of things that are right or not
	parsed func(*plain) T      // what such bytes say, right or not
	right  func(T) bool        // as the chapter's words say
	any    func(*rand.Rand) T  // a right one
	rights func() map[string]T // right ones
	wrongs func() map[string]T // such as are not
	raw    map[string]string   // bytes that no right thing has
}

// asked is what all tests ask of a sort.
type asked interface {
	called() string
	testPut(t *testing.T)
	testWrongPut(t *testing.T)
	testGet(t *testing.T)
	testCut(t *testing.T)
	testTurned(t *testing.T)
	testWrongGet(t *testing.T)
	testAnyBytes(t *testing.T)
	testNone(t *testing.T)
	testBoth(t *testing.T)
	testOneWay(t *testing.T)
	testArguments(t *testing.T)
	testNewMemory(t *testing.T)
	testAtOnce(t *testing.T)
	anyThing(r *rand.Rand) thing
}

func (s sort[T]) called() string { return s.name }

// thing is a thing of some sort, and what puts and gets it.
type thing struct {
	name  string
	told  string
	bytes []byte
	put   func(*wire.Writer)
	get   func(*wire.Reader) string
}

func (s sort[T]) anyThing(r *rand.Rand) thing {
	x := s.any(r)
	return thing{s.name, told(x), s.bytes(x), func(w *wire.Writer) { s.put(w, x) }, func(r *wire.Reader) string { return told(s.get(r)) }}
}

// each asks all sorts.
func each(t *testing.T, ask func(asked, *testing.T)) {
	for _, s := range sorts() {
		t.Run(s.called(), func(t *testing.T) {
			t.Parallel()
			ask(s, t)
		})
	}
}

// bytesPut is what a call puts to a new writer.
func bytesPut(put func(w *wire.Writer)) ([]byte, api.Errno) {
	w := wire.NewWriter()
	put(w)
	return w.Bytes()
}

// zero says whether a thing is a zero one.
func zero[T any](x T) bool {
	var none T
	return same(x, none)
}

// copied is a thing in memory of its own; each of its lists has room for so many more elements behind it.
func copied[T any](x T, room int) T { return copyOf(reflect.ValueOf(x), room).Interface().(T) }

func copyOf(v reflect.Value, room int) reflect.Value {
	c := reflect.New(v.Type()).Elem()
	switch v.Kind() {
	case reflect.Struct:
		for i := range v.NumField() {
			c.Field(i).Set(copyOf(v.Field(i), room))
		}
	case reflect.Slice:
		l := reflect.MakeSlice(v.Type(), v.Len()+room, v.Len()+room)
		for i := range v.Len() {
			l.Index(i).Set(copyOf(v.Index(i), room))
		}
		c.Set(l.Slice(0, v.Len()))
	default:
		c.Set(v)
	}
	return c
}

// whole is a thing whose lists go as far as their memory does.
func whole[T any](x T) T { return wholeOf(reflect.ValueOf(x)).Interface().(T) }

func wholeOf(v reflect.Value) reflect.Value {
	c := reflect.New(v.Type()).Elem()
	switch v.Kind() {
	case reflect.Struct:
		for i := range v.NumField() {
			c.Field(i).Set(wholeOf(v.Field(i)))
		}
	case reflect.Slice:
		for i := range v.Cap() {
			c.Set(reflect.Append(c, wholeOf(v.Slice(0, v.Cap()).Index(i))))
		}
	default:
		c.Set(v)
	}
	return c
}

// turn makes noughts of all elements of all lists of a thing, as far as their memory goes.
func turn(x any) { turnOf(reflect.ValueOf(x)) }

func turnOf(v reflect.Value) {
	switch v.Kind() {
	case reflect.Struct:
		for i := range v.NumField() {
			turnOf(v.Field(i))
		}
	case reflect.Slice:
		l := v.Slice(0, v.Cap())
		for i := range l.Len() {
			turnOf(l.Index(i))
			l.Index(i).SetZero()
		}
	}
}

// unhex is bytes that are written in hexadecimal; blanks part them.
func unhex(s string) []byte {
	b, err := hex.DecodeString(strings.ReplaceAll(s, " ", ""))
	if err != nil {
		panic(err)
	}
	return b
}

// The chapter's example.
func TestExample(t *testing.T) {
	x := list(num(1), text("ab"))
	b, e := bytesPut(func(w *wire.Writer) { PutTerm(w, x) })
	if hex.EncodeToString(b) != "0400020100000000000000010200026162" || e != api.OK {
		t.Errorf("a list: %x, %d", b, e)
	}
	r := wire.NewReader(b)
	if y := GetTerm(r); told(y) != told(x) || !r.End() {
		t.Errorf("a list: %s", told(y))
	}
	o := api.Output{Address: api.Address{Hash: h(0xAA, 0xBB)}, Value: api.Value{Coin: 5}}
	b, e = bytesPut(func(w *wire.Writer) { PutOutput(w, o) })
	if hex.EncodeToString(b) != "00"+hex.EncodeToString(o.Address.Hash[:])+"0000000000000005"+"0000"+"00" || e != api.OK {
		t.Errorf("an output: %x, %d", b, e)
	}
	if len(b) != 44 || Long(o) != 44 {
		t.Errorf("an output: %d, %d bytes", len(b), Long(o))
	}
	r = wire.NewReader(b)
	if y := GetOutput(r); told(y) != told(o) || !r.End() {
		t.Errorf("an output: %s", told(y))
	}
}
