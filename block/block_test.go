package block

import (
	"bytes"
	"encoding/hex"
	"fmt"
	"reflect"
	"strings"
	"testing"

	"moidore/api"
	"moidore/sum"
	"moidore/wire"
)

const (
	least = -1 << 63
	most  = 1<<63 - 1
)

// unhex is bytes that are written in hexadecimal; blanks part them.
func unhex(s string) []byte {
	b, err := hex.DecodeString(strings.ReplaceAll(s, " ", ""))
	if err != nil {
		panic(err)
	}
	return b
}

// short is a thing as it is told of, not too long to be shown.
func short(x any) string {
	s := fmt.Sprintf("%#v", x)
	if len(s) > 400 {
		return s[:400] + ".."
	}
	return s
}

// same says whether two things are: lists without elements are one with nil ones (R6).
func same[T any](a, b T) bool { return sameOf(reflect.ValueOf(a), reflect.ValueOf(b)) }

func sameOf(v, w reflect.Value) bool {
	if v.Kind() == reflect.Struct {
		for i := range v.NumField() {
			if !sameOf(v.Field(i), w.Field(i)) {
				return false
			}
		}
		return true
	}
	if v.Kind() != reflect.Slice {
		return v.Equal(w)
	}
	if v.Len() != w.Len() {
		return false
	}
	for i := range v.Len() {
		if !sameOf(v.Index(i), w.Index(i)) {
			return false
		}
	}
	return true
}

// zero says whether a thing is a zero one.
func zero[T any](x T) bool {
	var none T
	return same(x, none)
}

// bytesPut is what a call puts to a new writer.
func bytesPut(put func(w *wire.Writer)) ([]byte, api.Errno) {
	w := wire.NewWriter()
	put(w)
	return w.Bytes()
}

// The chapter's example.
func TestExample(t *testing.T) {
	b, e := bytesPut(func(w *wire.Writer) { PutHeader(w, api.Header{}) })
	if !bytes.Equal(b, make([]byte, 84)) || e != api.OK {
		t.Errorf("a header: %x, %d", b, e)
	}
	b, is := Put(api.Block{})
	if !bytes.Equal(b, make([]byte, 86)) || !is || !Right(api.Block{}) {
		t.Errorf("a block: %x, %t", b, is)
	}
	if x, is := Get(make([]byte, 86)); !zero(x) || !is {
		t.Errorf("got: %s, %t", short(x), is)
	}
	if id, is := Id(api.Header{}); id != sum.Of(make([]byte, 84)) || !is {
		t.Errorf("the id: %x, %t", id, is)
	}
	id := api.Hash{0x00, 0x7f, 0xff}
	if !Sealed(id, 9) || Sealed(id, 10) {
		t.Errorf("sealed with 9: %t, with 10: %t", Sealed(id, 9), Sealed(id, 10))
	}
}
