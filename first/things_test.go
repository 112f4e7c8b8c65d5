package first_test

import (
	"bytes"
	"slices"
	"strings"

	"moidore/api"
	"moidore/code"
	"moidore/first"
	"moidore/term"
	"moidore/tx"
	"moidore/wots"
)

const (
	least = -1 << 63
	most  = 1<<63 - 1
)

// h is a hash whose first and last bytes are these.
func h(first, last byte) api.Hash {
	var x api.Hash
	x[0], x[31] = first, last
	return x
}

func ref(tx byte, place int) api.Ref { return api.Ref{Tx: h(tx, 1), Place: place} }

func as(policy api.Hash, name string, n int64) api.Asset {
	return api.Asset{Policy: policy, Name: name, Amount: n}
}

func val(coin int64, l ...api.Asset) api.Value { return api.Value{Coin: coin, Assets: l} }

// some is so many assets of one policy that rise, each of n.
func some(many int, n int64) []api.Asset {
	var l []api.Asset
	for i := range many {
		l = append(l, as(h(7, 7), strings.Repeat("n", i), n))
	}
	return l
}

// many is so many times one thing.
func many[T any](n int, x T) []T { return slices.Repeat([]T{x}, n) }

func num(n int64) api.Term { return term.Join(api.Node{Kind: api.TermInt, Int: n}) }

func text(s string) api.Term { return term.Join(api.Node{Kind: api.TermBytes, Bytes: s}) }

func list(l ...api.Term) api.Term { return term.Join(api.Node{Kind: api.TermList}, l...) }

// keyed is an output that a key locks.
func keyed(key api.Hash, v api.Value) api.Output {
	return api.Output{Address: api.Address{Hash: key}, Value: v}
}

// locked is an output that a program locks, with a datum.
func locked(p api.Program, datum api.Term, v api.Value) api.Output {
	return api.Output{Address: api.Address{Program: true, Hash: hashOf(p)}, Value: v, Datum: api.DatumInline, Term: datum}
}

// hashed is an output that a program locks, with the hash of a datum.
func hashed(p api.Program, datum api.Term, v api.Value) api.Output {
	o := locked(p, api.Term{}, v)
	o.Datum, o.Hash = api.DatumHash, datumOf(datum)
	return o
}

func entry(x api.Ref, o api.Output) api.Entry { return api.Entry{Ref: x, Output: o} }

// keys is what seeds own, as it rises; seeds is the seed of each.
var keys, seeds = func() ([]api.Hash, map[api.Hash][]byte) {
	var l []api.Hash
	of := map[api.Hash][]byte{}
	for i := range byte(40) {
		seed := []byte{'s', i}
		l = append(l, wots.Key(seed))
		of[wots.Key(seed)] = seed
	}
	slices.SortFunc(l, compared)
	return l, of
}()

func compared(a, b api.Hash) int { return bytes.Compare(a[:], b[:]) }

func op(k api.OpKind) api.Instr { return api.Instr{Op: k} }

func push(n int64) api.Instr { return api.Instr{Op: api.OpPushInt, Num: n} }

// prog is a program that loads, takes so many arguments, and accepts; of each n another one.
func prog(args int, n int64) api.Program {
	l := many(args, op(api.OpDrop))
	return api.Program{Args: args, Instrs: append(l, push(n), push(n), op(api.OpIntSame), op(api.OpDone))}
}

// faulty is right programs of so many arguments that do not load.
func faulty(args int) map[string]api.Program {
	with := func(l ...api.Instr) api.Program { return api.Program{Args: args, Instrs: l} }
	good := prog(args, 0).Instrs
	return map[string]api.Program{
		"a stack that is too high": with(op(api.OpDone)),
		"a stack that is too low":  with(slices.Concat(many(4, op(api.OpDrop)), good)...),
		"another type":             with(slices.Concat([]api.Instr{op(api.OpNot)}, good)...),
		"a jump to nowhere":        with(api.Instr{Op: api.OpJump, Num: 299}),
		"no end":                   with(push(1)),
		"what is not reached":      with(slices.Concat(good, good)...),
	}
}

// library is all programs that may be asked for, by their hashes.
var library = func() map[api.Hash]api.Program {
	all := map[api.Hash]api.Program{}
	for args := range 4 {
		for n := range int64(40) {
			all[hashOf(prog(args, n))] = prog(args, n)
		}
		for _, p := range faulty(args) {
			all[hashOf(p)] = p
		}
	}
	return all
}()

// shelf is all data that may be asked for, by their hashes.
var shelf = func() map[api.Hash]api.Term {
	all := map[api.Hash]api.Term{}
	for n := range int64(40) {
		all[datumOf(num(n))] = num(n)
	}
	return all
}()

func hashOf(p api.Program) api.Hash {
	x, _ := code.Hash(p)
	return x
}

func datumOf(t api.Term) api.Hash {
	x, _ := first.Hash(t)
	return x
}

// ask is what Ask is given.
type ask struct {
	params api.Params
	view   []api.Entry
	slot   int64
	tx     api.Tx
}

func (c ask) reason() api.Reason { return first.Ask(c.params, c.view, c.slot, c.tx) }

// at is the output of the view at a ref.
func (c *ask) at(x api.Ref) *api.Output {
	for i := range c.view {
		if c.view[i].Ref == x {
			return &c.view[i].Output
		}
	}
	panic("no such entry")
}

// in is the output that the input at a place takes.
func (c *ask) in(place int) *api.Output { return c.at(c.tx.Body.Inputs[place]) }

// risk is the output that the collateral at a place may lose.
func (c *ask) risk(place int) *api.Output { return c.at(c.tx.Body.Collateral[place]) }

// fit puts the programs, the terms and the redeemers that are asked for.
func (c *ask) fit() {
	c.tx.Programs, c.tx.Terms, c.tx.Redeemers = nil, nil, nil
	for _, x := range plainPrograms(*c) {
		c.tx.Programs = append(c.tx.Programs, copied(library[x], 0))
	}
	for _, x := range plainData(*c) {
		c.tx.Terms = append(c.tx.Terms, copied(shelf[x], 0))
	}
	for i, x := range plainNeeds(*c) {
		x.Term, x.Budget = num(int64(i)), api.Budget{Steps: 1000 + int64(i), Memory: 500 + int64(i)}
		c.tx.Redeemers = append(c.tx.Redeemers, x)
	}
}

// balance lets the first input have just the coins that are missing.
func (c *ask) balance() {
	o := c.in(0)
	o.Value.Coin = c.tx.Body.Fee
	for _, x := range c.tx.Body.Outputs {
		o.Value.Coin += x.Value.Coin
	}
	for i := range c.tx.Body.Inputs[1:] {
		o.Value.Coin -= c.in(i + 1).Value.Coin
	}
}

// stake lets the first output of the collateral have just so many coins that so many are lost.
func (c *ask) stake(lost int64) {
	o := c.risk(0)
	o.Value.Coin = lost
	for _, x := range c.tx.Body.Return {
		o.Value.Coin += x.Value.Coin
	}
	for i := range c.tx.Body.Collateral[1:] {
		o.Value.Coin -= c.risk(i + 1).Value.Coin
	}
}

func (c *ask) hash() { c.tx.Body.Data, _ = tx.Data(c.tx) }

// sign puts the signatures of all owners whose seeds are known.
func (c *ask) sign() {
	c.tx.Signatures = nil
	id, _ := tx.Id(c.tx.Body)
	for _, x := range plainOwners(c.view, c.tx) {
		if seed, known := seeds[x]; known {
			c.tx.Signatures = append(c.tx.Signatures, wots.Sign(seed, id))
		}
	}
}

// sealed is c with its data's hash, and signed.
func (c ask) sealed() ask {
	c.hash()
	c.sign()
	return c
}

// long is how many bytes the transaction has, when it is sealed.
func (c ask) long() int64 {
	b, _ := tx.Put(c.sealed().tx)
	return int64(len(b))
}

func params() api.Params {
	return api.Params{
		FeeBase: 100, FeeByte: 2, PriceSteps: 7, PriceMemory: 11, CoinByte: 3, Percent: 150,
		TxBytes: 1 << 17, BlockBytes: 1 << 18, TxBudget: api.Budget{Steps: 1 << 18, Memory: 1 << 17}, Deep: 5,
	}
}

// pay is the chapter's example, not sealed: one input that a key locks, one output, no programs.
func pay() ask {
	return ask{
		params: api.Params{FeeBase: 10, TxBytes: 1 << 18, BlockBytes: 1 << 18},
		view:   []api.Entry{entry(ref(1, 0), keyed(keys[0], val(50)))},
		tx: api.Tx{Body: api.Body{
			Inputs:  []api.Ref{ref(1, 0)},
			Outputs: []api.Output{keyed(keys[1], val(40))},
			Fee:     10, To: -1,
		}},
	}
}

// Places in the full transaction's view that nothing takes: without coins, of a key and of programs.
var (
	spareKey, otherKey = ref(5, 0), ref(6, 0)
	spareProgram       = ref(7, 0)
	nowhere            = ref(8, 0)
)

// full is a transaction that is Fine when it is sealed, with something of everything: inputs that keys and programs lock, with data and with their hashes; collateral, a Return; what is minted and what is burnt.
func full() ask {
	a, b := hashOf(prog(2, 1)), hashOf(prog(2, 2))
	if compared(a, b) > 0 {
		a, b = b, a
	}
	c := ask{params: params(), slot: 15, view: []api.Entry{
		entry(ref(1, 0), keyed(keys[2], val(0))),
		entry(ref(1, 1), keyed(keys[1], val(5000, as(a, "x", 10), as(b, "y", 5)))),
		entry(ref(2, 0), locked(prog(3, 1), num(30), val(6000, as(a, "x", 1)))),
		entry(ref(2, 1), hashed(prog(3, 1), num(1), val(7000))),
		entry(ref(3, 0), hashed(prog(3, 2), num(2), val(8000))),
		entry(ref(4, 0), keyed(keys[3], val(0, as(h(9, 9), "", 5), as(h(9, 9), "z", 6)))),
		entry(ref(4, 1), keyed(keys[1], val(30000))),
		entry(spareKey, keyed(keys[4], val(0))),
		entry(otherKey, keyed(keys[2], val(0))),
		entry(spareProgram, locked(prog(3, 3), num(1), val(0))),
	}}
	c.tx = api.Tx{Valid: true, Body: api.Body{
		Inputs:     []api.Ref{ref(1, 0), ref(1, 1), ref(2, 0), ref(2, 1), ref(3, 0)},
		Collateral: []api.Ref{ref(4, 0), ref(4, 1)},
		Return:     []api.Output{keyed(keys[5], val(40000, as(h(9, 9), "", 5), as(h(9, 9), "z", 6)))},
		Outputs: []api.Output{
			keyed(keys[6], val(10000, as(a, "x", 7), as(b, "y", 5))),
			locked(prog(3, 4), text("datum"), val(20000)),
			hashed(prog(3, 5), num(9), val(30000, as(a, "", 3), as(b, "w", 8))),
		},
		Fee: 100000, From: 10, To: 20,
		Mint: []api.Asset{as(a, "", 3), as(a, "x", -4), as(b, "w", 8)},
	}}
	c.balance()
	c.stake(400000)
	c.fit()
	return c
}

func idOf(t api.Tx) api.Hash {
	id, _ := tx.Id(t.Body)
	return id
}
