package first_test

import (
	"fmt"
	"slices"

	"moidore/api"
	"moidore/wots"
)

func dataBends(l *bends) {
	for bit := range 256 {
		l.data(api.ReasonData, fmt.Sprint("the bit ", bit, " of the data's hash"), func(c *ask) { c.tx.Body.Data[bit/8] ^= 1 << (bit % 8) })
	}
	l.data(api.ReasonData, "a data's hash of noughts", func(c *ask) { c.tx.Body.Data = api.Hash{} })
	l.data(api.ReasonData, "a redeemer's term", func(c *ask) { c.tx.Redeemers[1].Term = num(77) })
	l.data(api.ReasonData, "a redeemer's steps", func(c *ask) { c.tx.Redeemers[4].Budget.Steps++ })
	l.data(api.Fine, "the flag", func(c *ask) { c.tx.Valid = false })
}

func signBends(l *bends) {
	mine := func(c *ask) *[]api.Signature { return &c.tx.Signatures }
	foreign := func(c *ask, seed string) api.Signature { return wots.Sign([]byte(seed), idOf(c.tx)) }
	for i := range 3 {
		l.signed(api.ReasonSign, fmt.Sprint("without the signature ", i), func(c *ask) { *mine(c) = slices.Delete(*mine(c), i, i+1) })
		l.signed(api.ReasonSign, fmt.Sprint("the signature ", i, " twice"), func(c *ask) { *mine(c) = slices.Insert(*mine(c), i, (*mine(c))[i]) })
		l.signed(api.ReasonSign, fmt.Sprint("another's signature, not ", i), func(c *ask) { (*mine(c))[i] = foreign(c, "another") })
		l.signed(api.ReasonSign, fmt.Sprint("a signature of another message, not ", i), func(c *ask) {
			(*mine(c))[i] = wots.Sign(seeds[plainOwners(c.view, c.tx)[i]], h(1, 2))
		})
		l.signed(api.ReasonSign, fmt.Sprint("the signatures ", i, " and the next one turned"), func(c *ask) {
			s := *mine(c)
			s[i], s[(i+1)%3] = s[(i+1)%3], s[i]
		})
		for k := range 35 {
			l.signed(api.ReasonSign, fmt.Sprint("a bit of the signature ", i, ", chain ", k), func(c *ask) { (*mine(c))[i].Chains[k][k%32] ^= 1 })
		}
	}
	for at := range 4 {
		l.signed(api.ReasonSign, fmt.Sprint("another's signature more, at ", at), func(c *ask) { *mine(c) = slices.Insert(*mine(c), at, foreign(c, "another")) })
	}
	l.signed(api.ReasonSign, "no signatures", func(c *ask) { *mine(c) = nil })
	l.signed(api.ReasonSign, "the owner of an output's signature more", func(c *ask) {
		*mine(c) = append(*mine(c), wots.Sign(seeds[keys[6]], idOf(c.tx)))
	})
	l.add(api.ReasonSign, "an input whose key has no seed", func(c *ask) { c.in(1).Address.Hash = h(1, 1) })
	l.add(api.ReasonSign, "collateral whose key has no seed", func(c *ask) { c.risk(1).Address.Hash = h(0xff, 1) })
	l.add(api.Fine, "one owner of all", func(c *ask) {
		for _, i := range []int{0, 1, 5, 6} {
			c.view[i].Output.Address.Hash = keys[9]
		}
	})
	l.add(api.Fine, "four owners", func(c *ask) {
		for n, i := range []int{6, 1, 5, 0} {
			c.view[i].Output.Address.Hash = keys[20+n]
		}
	})
}

func datumBends(l *bends) {
	terms := func(c *ask) *[]api.Term { return &c.tx.Terms }
	for i := 2; i < 5; i++ {
		l.add(api.ReasonDatum, fmt.Sprint("no datum of the input ", i), func(c *ask) {
			c.in(i).Datum, c.in(i).Hash, c.in(i).Term = api.DatumNone, api.Hash{}, api.Term{}
			*terms(c) = nil
			for _, x := range plainData(*c) {
				*terms(c) = append(*terms(c), copied(shelf[x], 0))
			}
		})
	}
	for i := range 2 {
		l.add(api.ReasonDatum, fmt.Sprint("without the term ", i), func(c *ask) { *terms(c) = slices.Delete(*terms(c), i, i+1) })
		l.add(api.ReasonDatum, fmt.Sprint("the term ", i, " twice"), func(c *ask) { *terms(c) = slices.Insert(*terms(c), i, (*terms(c))[i]) })
		l.add(api.ReasonDatum, fmt.Sprint("another term, not ", i), func(c *ask) { (*terms(c))[i] = num(3) })
		l.add(api.Fine, fmt.Sprint("the input ", i, " has a datum, whose key locks it"), func(c *ask) { c.in(i).Datum, c.in(i).Term = api.DatumInline, num(3) })
		l.add(api.Fine, fmt.Sprint("the input ", i, " has a datum's hash, whose key locks it"), func(c *ask) { c.in(i).Datum, c.in(i).Hash = api.DatumHash, datumOf(num(3)) })
		l.add(api.ReasonDatum, fmt.Sprint("the datum of the input ", i, ", whose key locks it"), func(c *ask) {
			c.in(i).Datum, c.in(i).Hash = api.DatumHash, datumOf(num(3))
			*terms(c) = append(*terms(c), num(3))
			slices.SortFunc(*terms(c), func(a, b api.Term) int { return compared(datumOf(a), datumOf(b)) })
		})
	}
	l.add(api.ReasonDatum, "terms turned round", func(c *ask) { slices.Reverse(*terms(c)) })
	l.add(api.ReasonDatum, "no terms", func(c *ask) { *terms(c) = nil })
	for at := range 3 {
		l.add(api.ReasonDatum, fmt.Sprint("a term that is there already, at ", at), func(c *ask) { *terms(c) = slices.Insert(*terms(c), at, num(30)) })
	}
	l.add(api.ReasonDatum, "an output's term", func(c *ask) { *terms(c) = append(*terms(c), num(9)) })
	l.add(api.Fine, "one datum of two", func(c *ask) { c.in(4).Hash, *terms(c) = c.in(3).Hash, []api.Term{num(1)} })
	l.add(api.ReasonDatum, "one datum of two, twice", func(c *ask) { c.in(4).Hash, *terms(c) = c.in(3).Hash, many(2, num(1)) })
	l.add(api.ReasonDatum, "a hash of no datum", func(c *ask) { c.in(4).Hash = h(1, 1) })
	l.add(api.Fine, "all data are there", func(c *ask) {
		for i := 3; i < 5; i++ {
			c.in(i).Datum, c.in(i).Hash, c.in(i).Term = api.DatumInline, api.Hash{}, num(0)
		}
		*terms(c) = nil
	})
}

func redeemerBends(l *bends) {
	red := func(c *ask) *[]api.Redeemer { return &c.tx.Redeemers }
	for i := range 5 {
		at := func(c *ask) *api.Redeemer { return &c.tx.Redeemers[i] }
		l.add(api.ReasonRedeemer, fmt.Sprint("without the redeemer ", i), func(c *ask) { *red(c) = slices.Delete(*red(c), i, i+1) })
		l.add(api.ReasonRedeemer, fmt.Sprint("the redeemer ", i, " twice"), func(c *ask) { *red(c) = slices.Insert(*red(c), i, *at(c)) })
		for _, place := range []int{0, 1, 2, 3, 4, 5, 258, 65535} {
			if place != []int{2, 3, 4, 0, 1}[i] {
				l.add(api.ReasonRedeemer, fmt.Sprint("the redeemer ", i, " at the place ", place), func(c *ask) { at(c).Place = place })
			}
		}
		l.add(api.ReasonRedeemer, fmt.Sprint("the redeemer ", i, " for another purpose"), func(c *ask) { at(c).Purpose = 3 - at(c).Purpose })
		l.add(api.ReasonRedeemer, fmt.Sprint("the redeemers ", i, " and the next one turned"), func(c *ask) {
			k := (i + 1) % 5
			(*red(c))[i], (*red(c))[k] = (*red(c))[k], (*red(c))[i]
		})
		l.add(api.Fine, fmt.Sprint("the redeemer ", i, " with another term"), func(c *ask) { at(c).Term = text("anything") })
		l.add(api.Fine, fmt.Sprint("the redeemer ", i, " without a budget"), func(c *ask) { at(c).Budget = api.Budget{} })
	}
	for i := range 2 {
		for at := range 6 {
			l.add(api.ReasonRedeemer, fmt.Sprint("a redeemer of the input ", i, ", whose key locks it, at ", at), func(c *ask) {
				*red(c) = slices.Insert(*red(c), at, api.Redeemer{Purpose: api.PurposeSpend, Place: i, Term: num(1)})
			})
		}
	}
	l.add(api.ReasonRedeemer, "a redeemer of a policy more", func(c *ask) {
		*red(c) = append(*red(c), api.Redeemer{Purpose: api.PurposeMint, Place: 2, Term: num(1)})
	})
	l.add(api.ReasonRedeemer, "a redeemer of an input more", func(c *ask) {
		*red(c) = slices.Insert(*red(c), 3, api.Redeemer{Purpose: api.PurposeSpend, Place: 5, Term: num(1)})
	})
	l.among(api.ReasonRedeemer, "no redeemers", func(c *ask) { *red(c) = nil })
}

func programBends(l *bends) {
	progs := func(c *ask) *[]api.Program { return &c.tx.Programs }
	for i := range 4 {
		l.add(api.ReasonProgram, fmt.Sprint("without the program ", i), func(c *ask) { *progs(c) = slices.Delete(*progs(c), i, i+1) })
		l.add(api.ReasonProgram, fmt.Sprint("the program ", i, " twice"), func(c *ask) { *progs(c) = slices.Insert(*progs(c), i, (*progs(c))[i]) })
		l.add(api.ReasonProgram, fmt.Sprint("another program, not ", i), func(c *ask) { (*progs(c))[i] = prog(3, 20) })
		l.add(api.ReasonProgram, fmt.Sprint("the programs ", i, " and the next one turned"), func(c *ask) {
			k := (i + 1) % 4
			(*progs(c))[i], (*progs(c))[k] = (*progs(c))[k], (*progs(c))[i]
		})
	}
	for _, p := range []api.Program{prog(3, 4), prog(3, 20), prog(2, 20), prog(0, 1)} {
		l.add(api.ReasonProgram, fmt.Sprint("a program of ", p.Args, " that nothing asks for, ", p.Instrs[p.Args].Num), func(c *ask) {
			*progs(c) = append(*progs(c), p)
			slices.SortFunc(*progs(c), func(a, b api.Program) int { return compared(hashOf(a), hashOf(b)) })
		})
	}
	for args := range 4 {
		if args == 3 {
			l.add(api.Fine, "locked by another program of 3", func(c *ask) { c.lock(4, prog(3, 20)) })
		} else {
			l.add(api.ReasonProgram, fmt.Sprint("locked by a program of ", args), func(c *ask) { c.lock(4, prog(args, 20)) })
		}
		if args == 2 {
			l.add(api.Fine, "minted by another program of 2", func(c *ask) { c.mint(prog(2, 20)) })
		} else {
			l.add(api.ReasonProgram, fmt.Sprint("minted by a program of ", args), func(c *ask) { c.mint(prog(args, 20)) })
		}
		l.add(api.ReasonProgram, fmt.Sprint("locked and minted by one program of ", args), func(c *ask) {
			c.lock(4, prog(args, 20))
			c.mint(prog(args, 20))
		})
	}
	for name, p := range faulty(3) {
		l.add(api.ReasonProgram, "locked by a program that does not load: "+name, func(c *ask) { c.lock(3, p) })
	}
	for name, p := range faulty(2) {
		l.add(api.ReasonProgram, "minted by a program that does not load: "+name, func(c *ask) { c.mint(p) })
	}
	l.add(api.Fine, "collateral's assets of a policy that is minted", func(c *ask) {
		c.risk(0).Value.Assets, c.tx.Body.Return[0].Value.Assets = c.tx.Body.Outputs[0].Value.Assets, c.tx.Body.Outputs[0].Value.Assets
	})
	l.among(api.ReasonProgram, "no programs", func(c *ask) { *progs(c) = nil })
}

// lock lets a program lock the input at a place.
func (c *ask) lock(place int, p api.Program) {
	c.in(place).Address.Hash = hashOf(p)
	c.fit()
}

// mint lets a program mint one asset more, and one of that come out.
func (c *ask) mint(p api.Program) {
	c.tx.Body.Mint = append(c.tx.Body.Mint, as(hashOf(p), "new", 1))
	slices.SortFunc(c.tx.Body.Mint, func(a, b api.Asset) int {
		return slices.Compare(append(a.Policy[:], a.Name...), append(b.Policy[:], b.Name...))
	})
	c.tx.Body.Outputs = append(c.tx.Body.Outputs, keyed(keys[7], val(1000, as(hashOf(p), "new", 1))))
	c.balance()
	c.fit()
}
