package tx

import (
	"bytes"
	"encoding/hex"
	"fmt"
	"reflect"
	"slices"
	"strings"
	"testing"

	"moidore/api"
	"moidore/sum"
	"moidore/wire"
)

const (
	least = -1 << 63
	most  = 1<<63 - 1
)

// h is a hash whose first and last bytes are these.
func h(first, last byte) api.Hash {
	var x api.Hash
	x[0], x[31] = first, last
	return x
}

// over is a node ahead of kids.
func over(n api.Node, kids ...api.Term) api.Term {
	n.Kids = len(kids)
	l := []api.Node{n}
	for _, k := range kids {
		l = append(l, k.Nodes...)
	}
	return api.Term{Nodes: l}
}

func num(n int64) api.Term         { return over(api.Node{Kind: api.TermInt, Int: n}) }
func text(s string) api.Term       { return over(api.Node{Kind: api.TermBytes, Bytes: s}) }
func realOf(a uint64) api.Term     { return over(api.Node{Kind: api.TermReal, Bits: a}) }
func list(k ...api.Term) api.Term  { return over(api.Node{Kind: api.TermList}, k...) }
func pairs(k ...api.Term) api.Term { return over(api.Node{Kind: api.TermMap}, k...) }
func tag(n int64, k ...api.Term) api.Term {
	return over(api.Node{Kind: api.TermTag, Int: n}, k...)
}
func nodes(l ...api.Node) api.Term { return api.Term{Nodes: l} }

func prog(args int, l ...api.Instr) api.Program { return api.Program{Args: args, Instrs: l} }

func as(policy byte, name string, n int64) api.Asset {
	return api.Asset{Policy: h(policy, 0), Name: name, Amount: n}
}

func val(coin int64, l ...api.Asset) api.Value { return api.Value{Coin: coin, Assets: l} }

func ref(first, last byte, place int) api.Ref { return api.Ref{Tx: h(first, last), Place: place} }

// keyOut is an output to a key, without a datum.
func keyOut(v api.Value) api.Output {
	return api.Output{Address: api.Address{Hash: h(0x16, 0x17)}, Value: v}
}

func hashOut(v api.Value, x api.Hash) api.Output {
	return api.Output{Address: api.Address{Program: true, Hash: h(0x18, 0x19)}, Value: v, Datum: api.DatumHash, Hash: x}
}

func termOut(v api.Value, t api.Term) api.Output {
	return api.Output{Address: api.Address{Program: true, Hash: h(0x1a, 0x1b)}, Value: v, Datum: api.DatumInline, Term: t}
}

// sig is a signature of so many hashes; the first one begins with first.
func sig(first byte, many int) api.Signature {
	var s api.Signature
	for i := range many {
		s.Chains = append(s.Chains, h(first+byte(i), byte(i)))
	}
	return s
}

func redeemer(purpose api.PurposeKind, place int, t api.Term, steps, memory int64) api.Redeemer {
	return api.Redeemer{Purpose: purpose, Place: place, Term: t, Budget: api.Budget{Steps: steps, Memory: memory}}
}

// full is a right transaction with something of everything.
func full() api.Tx {
	return api.Tx{
		Body: api.Body{
			Inputs:     []api.Ref{ref(0x11, 0x12, 30), ref(0x10, 0x13, 0)},
			Collateral: []api.Ref{ref(0x14, 0x15, 7)},
			Return:     []api.Output{keyOut(val(258))},
			Outputs: []api.Output{
				hashOut(val(5, as(1, "", 1), as(1, "ab", most)), h(0x20, 0x21)),
				termOut(val(most), list(num(-1), text("ab"), realOf(api.NaN))),
			},
			Fee:  0x0102030405060708,
			From: 1 << 40,
			To:   -1,
			Mint: []api.Asset{as(1, "", -1), as(2, "z", 3)},
			Data: h(0x22, 0x23),
		},
		Signatures: []api.Signature{sig(0x40, 35)},
		Programs: []api.Program{
			prog(3, api.Instr{Op: api.OpPushInt, Num: 1}, api.Instr{Op: api.OpFail}),
			prog(0, api.Instr{Op: api.OpPushTerm, Term: tag(258)}, api.Instr{Op: api.OpTake, Num: 39}, api.Instr{Op: api.OpMakeTag, Num: 2, Bits: 7}),
		},
		Terms: []api.Term{num(7), pairs(num(1), text("v"), num(2), list())},
		Redeemers: []api.Redeemer{
			redeemer(api.PurposeSpend, 0, num(9), 0, 1<<20),
			redeemer(api.PurposeMint, 65535, list(), 1<<20, 2),
		},
		Valid: true,
	}
}

// hx is a hash in hexadecimal whose first and last bytes are these.
func hx(first, last byte) string {
	return fmt.Sprintf("%02x%s%02x ", first, strings.Repeat("00", 30), last)
}

// The bytes of full, written down by hand: its body's, its signatures', its data's, and its flag's.
func fullBody() []byte {
	return unhex("0002" + hx(0x11, 0x12) + "001e" + hx(0x10, 0x13) + "0000" +
		"0001" + hx(0x14, 0x15) + "0007" +
		"0001" + "00" + hx(0x16, 0x17) + "0000000000000102 0000 00" +
		"0002" + "01" + hx(0x18, 0x19) + "0000000000000005 0002" + hx(1, 0) + "0000 0000000000000001" + hx(1, 0) + "0002 6162 7fffffffffffffff" + "01" + hx(0x20, 0x21) +
		"01" + hx(0x1a, 0x1b) + "7fffffffffffffff 0000" + "02 04 0003 01 ffffffffffffffff 02 0002 6162 03 7ff8000000000000" +
		"0102030405060708 0000010000000000 ffffffffffffffff" +
		"0002" + hx(1, 0) + "0000 ffffffffffffffff" + hx(2, 0) + "0001 7a 0000000000000003" +
		hx(0x22, 0x23))
}

func fullSignatures() []byte {
	s := "0001"
	for i := range byte(35) {
		s += hx(0x40+i, i)
	}
	return unhex(s)
}

func fullData() []byte {
	return unhex("0002" + "03 0002 01 0000000000000001 31" + "00 0003 03 05 00000102 0000 04 27 28 02 00000007" +
		"0002" + "01 0000000000000007" + "06 0004 01 0000000000000001 02 0001 76 01 0000000000000002 04 0000" +
		"0002" + "01 0000 01 0000000000000009 0000000000000000 0000000000100000" + "02 ffff 04 0000 0000000000100000 0000000000000002")
}

func fullBytes() []byte {
	return slices.Concat(fullBody(), fullSignatures(), fullData(), []byte{1})
}

// told is a thing as it is told of.
func told(x any) string { return strings.ReplaceAll(fmt.Sprintf("%#v", x), "(nil)", "{}") }

// short is a text that is not too long to be shown.
func short(x any) string {
	s := told(x)
	if len(s) > 400 {
		return s[:400] + ".."
	}
	return s
}

// same says whether two things are: lists without elements are one with nil ones (R6).
func same[T any](a, b T) bool { return sameOf(reflect.ValueOf(a), reflect.ValueOf(b)) }

func sameOf(v, w reflect.Value) bool {
	switch v.Kind() {
	case reflect.Struct:
		for i := range v.NumField() {
			if !sameOf(v.Field(i), w.Field(i)) {
				return false
			}
		}
		return true
	case reflect.Slice:
		for i := range v.Len() {
			if i == w.Len() || !sameOf(v.Index(i), w.Index(i)) {
				return false
			}
		}
		return v.Len() == w.Len()
	}
	return v.Equal(w)
}

// zero says whether a thing is a zero one.
func zero[T any](x T) bool {
	var none T
	return same(x, none)
}

// copied is a thing in memory of its own; each of its lists has room for so many more elements behind it.
func copied[T any](x T, room int) T { return copyOf(reflect.ValueOf(x), room).Interface().(T) }

func copyOf(v reflect.Value, room int) reflect.Value {
	c := reflect.New(v.Type()).Elem()
	switch v.Kind() {
	case reflect.Struct:
		for i := range v.NumField() {
			c.Field(i).Set(copyOf(v.Field(i), room))
		}
	case reflect.Slice:
		l := reflect.MakeSlice(v.Type(), v.Len()+room, v.Len()+room)
		for i := range v.Len() {
			l.Index(i).Set(copyOf(v.Index(i), room))
		}
		c.Set(l.Slice(0, v.Len()))
	default:
		c.Set(v)
	}
	return c
}

// whole is a thing in memory of its own, whose lists go as far as that one's memory does.
func whole[T any](x T) T { return wholeOf(reflect.ValueOf(x)).Interface().(T) }

func wholeOf(v reflect.Value) reflect.Value {
	c := reflect.New(v.Type()).Elem()
	switch v.Kind() {
	case reflect.Struct:
		for i := range v.NumField() {
			c.Field(i).Set(wholeOf(v.Field(i)))
		}
	case reflect.Slice:
		for i := range v.Cap() {
			c.Set(reflect.Append(c, wholeOf(v.Slice(0, v.Cap()).Index(i))))
		}
	default:
		c.Set(v)
	}
	return c
}

// turn makes noughts of all elements of all lists of a thing, as far as their memory goes.
func turn(x any) { turnOf(reflect.ValueOf(x)) }

func turnOf(v reflect.Value) {
	switch v.Kind() {
	case reflect.Struct:
		for i := range v.NumField() {
			turnOf(v.Field(i))
		}
	case reflect.Slice:
		l := v.Slice(0, v.Cap())
		for i := range l.Len() {
			turnOf(l.Index(i))
			l.Index(i).SetZero()
		}
	}
}

// span is the memory of a list.
type span struct{ from, to uintptr }

// spans is the memory of all lists of a thing.
func spans(v reflect.Value) []span {
	var l []span
	switch v.Kind() {
	case reflect.Struct:
		for i := range v.NumField() {
			l = append(l, spans(v.Field(i))...)
		}
	case reflect.Slice:
		if v.Cap() > 0 {
			l = append(l, span{v.Pointer(), v.Pointer() + uintptr(v.Cap())*v.Type().Elem().Size()})
		}
		for i := range v.Len() {
			l = append(l, spans(v.Index(i))...)
		}
	}
	return l
}

// unhex is bytes that are written in hexadecimal; blanks part them.
func unhex(s string) []byte {
	b, err := hex.DecodeString(strings.ReplaceAll(s, " ", ""))
	if err != nil {
		panic(err)
	}
	return b
}

// bytesPut is what a call puts to a new writer.
func bytesPut(put func(w *wire.Writer)) ([]byte, api.Errno) {
	w := wire.NewWriter()
	put(w)
	return w.Bytes()
}

// bytesOf is what PutTx puts of a transaction.
func bytesOf(t api.Tx) ([]byte, api.Errno) {
	return bytesPut(func(w *wire.Writer) { PutTx(w, t) })
}

// The chapter's example.
func TestExample(t *testing.T) {
	id, is := Id(api.Body{})
	if id != sum.Of(make([]byte, 66)) || !is {
		t.Errorf("the id: %x, %t", id, is)
	}
	b, is := Put(api.Tx{})
	if !bytes.Equal(b, make([]byte, 75)) || !is || !Right(api.Tx{}) {
		t.Errorf("%x, %t", b, is)
	}
	if x, is := Get(make([]byte, 75)); !zero(x) || !is {
		t.Errorf("%s, %t", short(x), is)
	}
	data, is := Data(api.Tx{})
	if data != sum.Of(make([]byte, 6)) || !is {
		t.Errorf("the data's hash: %x, %t", data, is)
	}
}
