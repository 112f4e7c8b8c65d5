package first

import (
	"slices"

	"moidore/api"
	"moidore/check"
	"moidore/code"
	"moidore/pack"
	"moidore/tx"
	"moidore/wots"
)

// How many arguments a program takes: one that spends is shown a datum too.
const (
	spendArgs = 3
	mintArgs  = 2
)

// asker is a transaction that is asked, and over what. What an ask finds out stands there for those behind it.
type asker struct {
	api.Tx
	params api.Params
	view   []api.Entry
	slot   int64

	long         int64        // how many bytes it has
	takes, risks []api.Output // those of its Inputs, of its Collateral
	used         api.Budget   // of all its Redeemers
}

// asks is what is asked, in its order: each one throws the reason that it meets, and may take it that those ahead met none.
func (a *asker) asks() []func() {
	return []func(){
		a.shape, a.inputs, a.size, a.time, a.missing,
		a.value, a.data, a.sign, a.programs, a.datum,
		a.redeemers, a.budget, a.fee, a.collateral, a.sum,
	}
}

func (a *asker) shape() {
	b, is := tx.Put(a.Tx)
	must(api.ReasonShape, Params(a.params), pack.RightEntries(a.view), upTo(a.slot, api.MaxSlot), is)
	a.long = int64(len(b))
}

func (a *asker) inputs() {
	must(api.ReasonInputs, len(a.Body.Inputs) > 0, rise(a.Body.Inputs), rise(a.Body.Collateral))
}

func (a *asker) size() {
	must(api.ReasonSize, a.long <= int64(a.params.TxBytes))
}

func (a *asker) time() {
	must(api.ReasonSlot, a.slot >= a.Body.From, a.Body.To < 0 || a.slot < a.Body.To)
}

func (a *asker) missing() {
	a.takes, a.risks = found(a.view, a.Body.Inputs), found(a.view, a.Body.Collateral)
	must(api.ReasonMissing, len(a.takes) == len(a.Body.Inputs), len(a.risks) == len(a.Body.Collateral))
}

func (a *asker) value() {
	for _, o := range slices.Concat(a.Body.Outputs, a.Body.Return) {
		must(api.ReasonValue, o.Value.Coin >= a.params.CoinByte*int64(pack.Long(o)))
	}
}

func (a *asker) data() {
	hash, is := tx.Data(a.Tx)
	must(api.ReasonData, is, a.Body.Data == hash)
}

func (a *asker) sign() {
	id, is := tx.Id(a.Body)
	signed := each(a.Signatures, func(s api.Signature) api.Hash {
		owner, told := wots.Owner(s, id)
		must(api.ReasonSign, told)
		return owner
	})
	must(api.ReasonSign, is, slices.Equal(signed, owners(a.takes, a.risks)))
}

func (a *asker) programs() {
	spent, minted := locks(true, a.takes...), Policies(a.Body.Mint)
	hashes := each(a.Programs, func(p api.Program) api.Hash {
		hash, is := code.Hash(p)
		_, _, e := check.Load(p)
		must(api.ReasonProgram, is, e == api.OK)
		return hash
	})
	must(api.ReasonProgram, slices.Equal(hashes, rising(slices.Concat(spent, minted))))
	for i, p := range a.Programs {
		must(api.ReasonProgram,
			p.Args == spendArgs || !slices.Contains(spent, hashes[i]),
			p.Args == mintArgs || !slices.Contains(minted, hashes[i]))
	}
}

func (a *asker) datum() {
	var wanted []api.Hash
	for _, o := range a.takes {
		must(api.ReasonDatum, !o.Address.Program || o.Datum != api.DatumNone)
		if o.Address.Program && o.Datum == api.DatumHash {
			wanted = append(wanted, o.Hash)
		}
	}
	hashes := each(a.Terms, func(t api.Term) api.Hash {
		hash, is := Hash(t)
		must(api.ReasonDatum, is)
		return hash
	})
	must(api.ReasonDatum, slices.Equal(hashes, rising(wanted)))
}

// need is what a redeemer is for.
type need struct {
	purpose api.PurposeKind
	place   int
}

func (a *asker) redeemers() {
	var needs []need
	for i, o := range a.takes {
		if o.Address.Program {
			needs = append(needs, need{api.PurposeSpend, i})
		}
	}
	for i := range Policies(a.Body.Mint) {
		needs = append(needs, need{api.PurposeMint, i})
	}
	has := each(a.Redeemers, func(r api.Redeemer) need { return need{r.Purpose, r.Place} })
	must(api.ReasonRedeemer, slices.Equal(has, needs))
}
