package pack

import (
	"bytes"
	"slices"
	"testing"

	"moidore/api"
	"moidore/term"
	"moidore/value"
	"moidore/wire"
)

// P7.2: each right thing's bytes are those of the table, behind those that are there.
func TestPut(t *testing.T) { each(t, asked.testPut) }

func (s sort[T]) testPut(t *testing.T) {
	for name, x := range s.rights() {
		if !s.right(x) {
			t.Errorf("%s: no right thing", name)
		}
		want := s.bytes(x)
		if b, e := bytesPut(func(w *wire.Writer) { s.put(w, x) }); !bytes.Equal(b, want) || e != api.OK {
			t.Errorf("%s: %x, %d, not %x", name, b, e, want)
		}
		b, e := bytesPut(func(w *wire.Writer) {
			w.U16(0x1234)
			s.put(w, x)
			w.Text("z")
			s.put(w, x)
		})
		if !bytes.Equal(b, slices.Concat(unhex("1234"), want, unhex("00017a"), want)) || e != api.OK {
			t.Errorf("%s, amid others: %x, %d", name, b, e)
		}
	}
}

// P7.2: a thing that is not right, for each reason, spoils the writer.
func TestWrongPut(t *testing.T) { each(t, asked.testWrongPut) }

func (s sort[T]) testWrongPut(t *testing.T) {
	rights := s.rights()
	for name, x := range s.wrongs() {
		if s.right(x) {
			t.Errorf("%s: a right thing", name)
		}
		if b, e := bytesPut(func(w *wire.Writer) { s.put(w, x) }); b != nil || e != api.ErrArg {
			t.Errorf("%s: %x, %d", name, b, e)
		}
		w := wire.NewWriter()
		w.U8(1)
		s.put(w, x)
		for _, y := range rights {
			s.put(w, y)
			break
		}
		if b, e := w.Bytes(); b != nil || e != api.ErrArg {
			t.Errorf("%s, amid others: %x, %d", name, b, e)
		}
	}
}

// P7.2: by hand, call by call of wire.
func TestCallByCall(t *testing.T) {
	policy, name := h(1, 2), "name"
	asset := api.Asset{Policy: policy, Name: name, Amount: 5}
	minus := api.Asset{Policy: policy, Name: name, Amount: -5}
	total := api.Total{Policy: policy, Name: name, Sum: api.Wide{Hi: -2, Lo: 3}}
	x := list(num(-1), text("ab"), realOf(api.NaN), tag(258, list()), pairs(num(1), pairs()))
	out := api.Output{Address: api.Address{Program: true, Hash: h(3, 4)}, Value: api.Value{Coin: 258, Assets: []api.Asset{asset}}, Datum: api.DatumInline, Term: x}
	hashed := api.Output{Address: api.Address{Hash: h(3, 4)}, Value: api.Value{Coin: 1}, Datum: api.DatumHash, Hash: h(5, 6)}
	none := api.Output{Value: api.Value{Coin: 1}}
	d := api.Diff{Spent: entries(entry(ref(1, 1, 30), out), entry(ref(2, 1, 0), none)), Made: entries(entry(ref(1, 1, 29), hashed)), Fees: 6, Forfeits: 7, Mint: []api.Total{total}}

	wantPut(t, "a term", func(w *wire.Writer) { PutTerm(w, x) }, handTerm)
	wantPut(t, "assets", func(w *wire.Writer) { PutAssets(w, []api.Asset{minus}) }, func(w *wire.Writer) {
		w.U16(1)
		handAsset(w, minus)
	})
	wantPut(t, "a value", func(w *wire.Writer) { PutValue(w, out.Value) }, func(w *wire.Writer) { handValue(w, out.Value) })
	wantPut(t, "totals", func(w *wire.Writer) { PutTotals(w, d.Mint) }, func(w *wire.Writer) { handTotals(w, d.Mint) })
	wantPut(t, "an output", func(w *wire.Writer) { PutOutput(w, out) }, func(w *wire.Writer) { handOutput(w, out) })
	wantPut(t, "an output's hash", func(w *wire.Writer) { PutOutput(w, hashed) }, func(w *wire.Writer) { handOutput(w, hashed) })
	wantPut(t, "an output alone", func(w *wire.Writer) { PutOutput(w, none) }, func(w *wire.Writer) { handOutput(w, none) })
	wantPut(t, "a ref", func(w *wire.Writer) { PutRef(w, d.Spent[0].Ref) }, func(w *wire.Writer) {
		w.Hash(h(1, 1))
		w.U16(30)
	})
	wantPut(t, "entries", func(w *wire.Writer) { PutEntries(w, d.Spent) }, func(w *wire.Writer) { handEntries(w, d.Spent) })
	wantPut(t, "a diff", func(w *wire.Writer) { PutDiff(w, d) }, func(w *wire.Writer) {
		handEntries(w, d.Spent)
		handEntries(w, d.Made)
		w.I64(6)
		w.I64(7)
		handTotals(w, d.Mint)
	})
}

// wantPut wants what put puts to be what hand does.
func wantPut(t *testing.T, name string, put, hand func(*wire.Writer)) {
	t.Helper()
	b, e := bytesPut(put)
	want, _ := bytesPut(hand)
	if !bytes.Equal(b, want) || e != api.OK || len(want) == 0 {
		t.Errorf("%s: %x, %d, not %x", name, b, e, want)
	}
}

// handTerm is the one term of TestCallByCall.
func handTerm(w *wire.Writer) {
	w.U8(4)
	w.U16(5)
	w.U8(1)
	w.I64(-1)
	w.U8(2)
	w.Text("ab")
	w.U8(3)
	w.U64(0x7FF8000000000000)
	w.U8(5)
	w.U32(258)
	w.U16(1)
	w.U8(4)
	w.U16(0)
	w.U8(6)
	w.U16(2)
	w.U8(1)
	w.I64(1)
	w.U8(6)
	w.U16(0)
}

func handAsset(w *wire.Writer, a api.Asset) {
	w.Hash(a.Policy)
	w.Text(a.Name)
	w.I64(a.Amount)
}

func handValue(w *wire.Writer, v api.Value) {
	w.I64(v.Coin)
	w.U16(len(v.Assets))
	for _, a := range v.Assets {
		handAsset(w, a)
	}
}

func handTotals(w *wire.Writer, l []api.Total) {
	w.U32(len(l))
	for _, t := range l {
		w.Hash(t.Policy)
		w.Text(t.Name)
		w.I64(t.Sum.Hi)
		w.U64(t.Sum.Lo)
	}
}

func handOutput(w *wire.Writer, o api.Output) {
	w.Flag(o.Address.Program)
	w.Hash(o.Address.Hash)
	handValue(w, o.Value)
	w.U8(int(o.Datum))
	switch o.Datum {
	case api.DatumHash:
		w.Hash(o.Hash)
	case api.DatumInline:
		handTerm(w)
	}
}

func handEntries(w *wire.Writer, l []api.Entry) {
	w.U32(len(l))
	for _, e := range l {
		w.Hash(e.Ref.Tx)
		w.U16(e.Ref.Place)
		handOutput(w, e.Output)
	}
}

// P7.2: all the numbers that a node, an asset, a bundle has, byte by byte.
func TestEnds(t *testing.T) {
	for name, want := range map[string]struct {
		put   func(w *wire.Writer)
		bytes string
	}{
		"the least int":      {func(w *wire.Writer) { PutTerm(w, num(least)) }, "01 8000000000000000"},
		"the greatest int":   {func(w *wire.Writer) { PutTerm(w, num(most)) }, "01 7fffffffffffffff"},
		"an int":             {func(w *wire.Writer) { PutTerm(w, num(0x0102030405060708)) }, "01 0102030405060708"},
		"no bytes":           {func(w *wire.Writer) { PutTerm(w, text("")) }, "02 0000"},
		"-0":                 {func(w *wire.Writer) { PutTerm(w, realOf(minusNought)) }, "03 8000000000000000"},
		"no list":            {func(w *wire.Writer) { PutTerm(w, list()) }, "04 0000"},
		"the greatest tag":   {func(w *wire.Writer) { PutTerm(w, tag(1<<31-1)) }, "05 7fffffff 0000"},
		"a tag":              {func(w *wire.Writer) { PutTerm(w, tag(0x01020304, tag(0))) }, "05 01020304 0001 05 00000000 0000"},
		"a map":              {func(w *wire.Writer) { PutTerm(w, pairs(text(""), list())) }, "06 0002 02 0000 04 0000"},
		"no assets":          {func(w *wire.Writer) { PutAssets(w, nil) }, "0000"},
		"no totals":          {func(w *wire.Writer) { PutTotals(w, nil) }, "00000000"},
		"no entries":         {func(w *wire.Writer) { PutEntries(w, nil) }, "00000000"},
		"the greatest coin":  {func(w *wire.Writer) { PutValue(w, val(most)) }, "7fffffffffffffff 0000"},
		"a diff of nothing":  {func(w *wire.Writer) { PutDiff(w, api.Diff{}) }, "00000000 00000000 0000000000000000 0000000000000000 00000000"},
		"a diff's two sums":  {func(w *wire.Writer) { PutDiff(w, api.Diff{Fees: most, Forfeits: 258}) }, "00000000 00000000 7fffffffffffffff 0000000000000102 00000000"},
		"a ref":              {func(w *wire.Writer) { PutRef(w, api.Ref{Place: 30}) }, "0000000000000000000000000000000000000000000000000000000000000000 001e"},
		"the least amount":   {func(w *wire.Writer) { PutAssets(w, []api.Asset{{Amount: least}}) }, "0001 0000000000000000000000000000000000000000000000000000000000000000 0000 8000000000000000"},
		"the least of a sum": {func(w *wire.Writer) { PutTotals(w, []api.Total{{Sum: api.Wide{Hi: least}}}) }, "00000001 0000000000000000000000000000000000000000000000000000000000000000 0000 8000000000000000 0000000000000000"},
	} {
		if b, e := bytesPut(want.put); !bytes.Equal(b, unhex(want.bytes)) || e != api.OK {
			t.Errorf("%s: %x, %d", name, b, e)
		}
	}
}

// P7.2: just what is right is put: what the layers below say is right.
func TestPutAsks(t *testing.T) {
	puts := func(put func(w *wire.Writer)) bool {
		_, e := bytesPut(put)
		return e == api.OK
	}
	for _, l := range []map[string]api.Term{rightTerms(), wrongTerms()} {
		for name, x := range l {
			if puts(func(w *wire.Writer) { PutTerm(w, x) }) != term.Right(x) {
				t.Errorf("a term: %s", name)
			}
		}
	}
	for _, l := range []map[string][]api.Asset{rightAssets(), wrongAssets()} {
		for name, x := range l {
			if puts(func(w *wire.Writer) { PutAssets(w, x) }) != value.Mints(x) {
				t.Errorf("assets: %s", name)
			}
			if puts(func(w *wire.Writer) { PutValue(w, val(0, x...)) }) != value.Right(val(0, x...)) {
				t.Errorf("a value: %s", name)
			}
		}
	}
}

// P7.2, P7.3: more than 2^16 totals, and entries: their numbers are of 32 bits.
func TestMany(t *testing.T) {
	l := manyTotals(70000)
	b, e := bytesPut(func(w *wire.Writer) { PutTotals(w, l) })
	if want := totalsBytes(l); !bytes.Equal(b, want) || e != api.OK {
		t.Errorf("totals: %d bytes, %d", len(b), e)
	}
	r := wire.NewReader(b)
	if !slices.Equal(GetTotals(r), l) || !r.End() {
		t.Error("totals are not got")
	}
	var row []api.Entry
	for i := range 70000 {
		x := ref(byte(i>>16), 0, 0)
		x.Tx[1], x.Tx[2] = byte(i>>8), byte(i)
		row = append(row, at(x))
	}
	b, e = bytesPut(func(w *wire.Writer) { PutEntries(w, row) })
	if want := entriesBytes(row); !bytes.Equal(b, want) || e != api.OK {
		t.Errorf("entries: %d bytes, %d", len(b), e)
	}
	r = wire.NewReader(b)
	got := GetEntries(r)
	same := func(a, b api.Entry) bool {
		return a.Ref == b.Ref && a.Output.Address == b.Output.Address && a.Output.Value.Coin == b.Output.Value.Coin
	}
	if !slices.EqualFunc(got, row, same) || !r.End() {
		t.Error("entries are not got")
	}
	b, e = bytesPut(func(w *wire.Writer) { PutDiff(w, api.Diff{Made: row, Mint: l}) })
	if len(b) != 4+4+70000*78+16+4+70000*50 || e != api.OK || !RightDiff(api.Diff{Spent: row, Mint: l}) {
		t.Errorf("a diff: %d bytes, %d", len(b), e)
	}
}
