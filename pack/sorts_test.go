package pack

import (
	"slices"
	"strconv"
	"strings"

	"moidore/api"
	"moidore/term"
	"moidore/value"
)

const (
	minusNought = 1 << 63
	inf         = 0x7FF0000000000000
)

// sorts is all sorts of things.
func sorts() []asked {
	return []asked{
		sort[api.Term]{"a term", PutTerm, GetTerm, termBytes, (*plain).term, term.Right, anyTerm, rightTerms, wrongTerms, rawTerms()},
		sort[[]api.Asset]{"assets", PutAssets, GetAssets, assetsBytes, (*plain).assets, value.Mints, anyAssets, rightAssets, wrongAssets, rawAssets()},
		sort[api.Value]{"a value", PutValue, GetValue, valueBytes, (*plain).value, value.Right, anyValue, rightValues, wrongValues, rawValues()},
		sort[[]api.Total]{"totals", PutTotals, GetTotals, totalsBytes, (*plain).totals, value.Totals, anyTotals, rightTotals, wrongTotals, rawTotals()},
		sort[api.Output]{"an output", PutOutput, GetOutput, outputBytes, (*plain).output, isOutput, anyOutput, rightOutputs, wrongOutputs, rawOutputs()},
		sort[api.Ref]{"a ref", PutRef, GetRef, refBytes, (*plain).ref, isRef, anyRef, rightRefs, wrongRefs, rawRefs()},
		sort[[]api.Entry]{"entries", PutEntries, GetEntries, entriesBytes, (*plain).entries, areEntries, anyEntries, rightEntries, wrongEntries, rawEntries()},
		sort[api.Diff]{"a diff", PutDiff, GetDiff, diffBytes, (*plain).diff, isDiff, anyDiff, rightDiffs, wrongDiffs, rawDiffs()},
	}
}

func rightTerms() map[string]api.Term {
	return map[string]api.Term{
		"the int 0":           num(0),
		"the int -1":          num(-1),
		"the least int":       num(least),
		"the greatest int":    num(most),
		"no bytes":            text(""),
		"bytes":               text("ab"),
		"bytes of all sorts":  text("\x00\xff\x80\xc3("),
		"200 bytes":           text(strings.Repeat("z", 200)),
		"the real 0":          realOf(0),
		"the real -0":         realOf(minusNought),
		"the real 1":          realOf(0x3FF0000000000000),
		"infinity":            realOf(inf),
		"minus infinity":      realOf(minusNought | inf),
		"NaN":                 realOf(api.NaN),
		"no list":             list(),
		"a list":              list(num(1), text("ab"), realOf(1)),
		"a tag of 0":          tag(0),
		"a tag":               tag(258, num(1), num(1)),
		"the greatest tag":    tag(1<<31-1, text("a")),
		"no map":              pairs(),
		"a map":               pairs(num(1), num(9), num(2), num(8), text(""), num(8), realOf(0), list()),
		"-0 ahead of 0":       pairs(realOf(minusNought), num(1), realOf(0), num(1)),
		"each in each":        list(tag(3, pairs(list(tag(1)), list(pairs(num(1), tag(2, list())))), text("x")), num(7)),
		"a map of maps":       pairs(pairs(), pairs(), pairs(num(1), num(1)), pairs(num(1), pairs())),
		"100 nodes":           list(nums(99)...),
		"100 nodes, nested":   list(list(nums(49)...), tag(1, nums(48)...)),
		"16 deep":             nested(16),
		"16 deep, and 1 deep": list(nested(15), num(1)),
	}
}

func wrongTerms() map[string]api.Term {
	anInt, someBytes, aReal, aList, aTag, aMap := api.TermInt, api.TermBytes, api.TermReal, api.TermList, api.TermTag, api.TermMap
	return map[string]api.Term{
		"no node":                     {},
		"an empty row":                nodes([]api.Node{}...),
		"a kid too few":               nodes(api.Node{Kind: aList, Kids: 2}, num(1).Nodes[0]),
		"no kid":                      nodes(api.Node{Kind: aList, Kids: 1}),
		"a node too many":             nodes(num(1).Nodes[0], num(2).Nodes[0]),
		"a node behind a list":        nodes(list().Nodes[0], num(2).Nodes[0]),
		"kids below 0":                nodes(api.Node{Kind: aList, Kids: -1}),
		"the fewest kids":             nodes(api.Node{Kind: aList, Kids: least}),
		"the most kids":               nodes(api.Node{Kind: aList, Kids: most}),
		"2^16 kids":                   nodes(api.Node{Kind: aList, Kids: 1 << 16}),
		"the kind 0":                  nodes(api.Node{}),
		"the kind 7":                  nodes(api.Node{Kind: 7}),
		"the kind -1":                 nodes(api.Node{Kind: -1}),
		"the kind 257":                nodes(api.Node{Kind: 257, Int: 5}),
		"the least kind":              nodes(api.Node{Kind: least}),
		"an int with bits":            nodes(api.Node{Kind: anInt, Bits: 1}),
		"an int with bytes":           nodes(api.Node{Kind: anInt, Bytes: "a"}),
		"an int with kids":            nodes(api.Node{Kind: anInt, Kids: 1}, num(1).Nodes[0]),
		"bytes with an int":           nodes(api.Node{Kind: someBytes, Bytes: "a", Int: 1}),
		"bytes with bits":             nodes(api.Node{Kind: someBytes, Bytes: "a", Bits: 1}),
		"bytes with kids":             nodes(api.Node{Kind: someBytes, Kids: 1}, num(1).Nodes[0]),
		"201 bytes":                   text(strings.Repeat("z", 201)),
		"2^16 bytes":                  text(strings.Repeat("z", 1<<16)),
		"a real with an int":          nodes(api.Node{Kind: aReal, Int: 1}),
		"a real with bytes":           nodes(api.Node{Kind: aReal, Bytes: "a"}),
		"a real with kids":            nodes(api.Node{Kind: aReal, Kids: 1}, num(1).Nodes[0]),
		"another NaN":                 realOf(api.NaN + 1),
		"a NaN below 0":               realOf(minusNought | api.NaN),
		"a list with an int":          nodes(api.Node{Kind: aList, Int: 1}),
		"a list with bits":            nodes(api.Node{Kind: aList, Bits: 1}),
		"a list with bytes":           nodes(api.Node{Kind: aList, Bytes: "a"}),
		"a tag below 0":               tag(-1),
		"a tag too great":             tag(1 << 31),
		"a tag beyond 32 bits":        tag(1<<32 + 5),
		"the least tag":               tag(least),
		"a tag with bits":             nodes(api.Node{Kind: aTag, Bits: 1}),
		"a tag with bytes":            nodes(api.Node{Kind: aTag, Bytes: "a"}),
		"a map with an int":           nodes(api.Node{Kind: aMap, Int: 1}),
		"a map with bits":             nodes(api.Node{Kind: aMap, Bits: 1}),
		"a map with bytes":            nodes(api.Node{Kind: aMap, Bytes: "a"}),
		"a map of one":                pairs(num(1)),
		"a map of three":              pairs(nums(3)...),
		"a map with a key twice":      pairs(num(1), num(2), num(1), num(3)),
		"a map with NaN twice":        pairs(realOf(api.NaN), num(2), realOf(api.NaN), num(3)),
		"a map whose keys fall":       pairs(num(2), num(2), num(1), num(3)),
		"a map whose reals fall":      pairs(realOf(0), num(2), realOf(minusNought), num(3)),
		"101 nodes":                   list(nums(100)...),
		"300 nodes":                   list(nums(299)...),
		"17 deep":                     nested(17),
		"60 deep":                     nested(60),
		"a list of what is not right": list(num(1), tag(-1)),
		"a key that is not right":     pairs(text(strings.Repeat("z", 201)), num(1)),
		"a value that is not right":   pairs(num(1), realOf(api.NaN+1)),
	}
}

// rawTerms is bytes that are no right term's.
func rawTerms() map[string]string {
	return map[string]string{
		"nothing":              "",
		"the kind 0":           "00 0000000000000001",
		"the kind 7":           "07 0000000000000001",
		"the kind 255":         "ff 0000000000000001",
		"a kid too few":        "04 0002 01 0000000000000001",
		"no kid":               "04 0001",
		"65535 kids":           "04 ffff 01 0000000000000001 01 0000000000000001",
		"100 kids":             "04 0064" + strings.Repeat(" 01 0000000000000001", 100),
		"101 kids":             "04 0065" + strings.Repeat(" 01 0000000000000001", 101),
		"lists in lists":       strings.Repeat("04 0001 ", 16) + "01 0000000000000001",
		"lists without end":    strings.Repeat("04 0001 ", 2000),
		"lists of many":        strings.Repeat("04 ffff ", 2000),
		"201 bytes":            "02 00c9" + strings.Repeat(" 61", 201),
		"fewer bytes":          "02 0003 6162",
		"another NaN":          "03 7ff8000000000001",
		"a NaN below 0":        "03 fff8000000000000",
		"a tag too great":      "05 80000000 0000",
		"the greatest 32 bits": "05 ffffffff 0000",
		"a map of one":         "06 0001 01 0000000000000001",
		"a key twice":          "06 0004" + strings.Repeat(" 01 0000000000000001", 4),
		"keys that fall":       "06 0004 01 0000000000000002 04 0000 01 0000000000000001 04 0000",
		"a kid of no kind":     "04 0001 00",
	}
}

func rightAssets() map[string][]api.Asset {
	return map[string][]api.Asset{
		"none":                    nil,
		"one":                     {as(1, "", 1)},
		"one below 0":             {as(1, "ab", -1)},
		"the least amount":        {as(0, "ab", least)},
		"the greatest":            {as(255, "ab", most)},
		"a name of 32 bytes":      {as(1, strings.Repeat("n", 32), 5)},
		"a name of any bytes":     {as(1, "\x00\xff\x80", 5)},
		"names that rise":         {as(1, "", 1), as(1, "a", 2), as(1, "a\x00", 3), as(1, "b", -4), as(1, "\xff", 5)},
		"policies that rise":      {as(1, "z", 1), as(2, "", 2), as(128, "", 3)},
		"last bytes that rise":    {{Policy: h(1, 0), Amount: 1}, {Policy: h(1, 1), Amount: 1}},
		"30 assets":               some(30),
		"30 assets, of all signs": append(some(28), as(200, "", -1), as(201, "", least)),
	}
}

// badRows is rows of assets that are wrong in a bundle, and where assets are minted.
func badRows() map[string][]api.Asset {
	return map[string][]api.Asset{
		"an amount of 0":              {as(1, "", 0)},
		"one of them of 0":            {as(1, "", 1), as(2, "", 0), as(3, "", 1)},
		"one twice":                   {as(1, "a", 1), as(1, "a", 2)},
		"names that fall":             {as(1, "b", 1), as(1, "a", 2)},
		"a name behind its longer":    {as(1, "aa", 1), as(1, "a", 2)},
		"policies that fall":          {as(2, "", 1), as(1, "z", 2)},
		"policies above 127 first":    {as(128, "", 1), as(127, "", 2)},
		"last bytes that fall":        {{Policy: h(1, 1), Amount: 1}, {Policy: h(1, 0), Amount: 1}},
		"a name of 33 bytes":          {as(1, strings.Repeat("n", 33), 5)},
		"a name of 2^16 bytes":        {as(1, strings.Repeat("n", 1<<16), 5)},
		"31 assets":                   some(31),
		"100 assets":                  some(100),
		"some that rise, but for two": append(some(10), some(1)...),
	}
}

func wrongAssets() map[string][]api.Asset { return badRows() }

func rawAssets() map[string]string {
	one := strings.Repeat("01", 32) + " 0001 61 0000000000000001"
	return map[string]string{
		"nothing":                "",
		"half a number":          "00",
		"two, of which one is":   "0002" + one,
		"65535, of which one is": "ffff" + one,
		"31, of which one is":    "001f" + one,
		"one twice":              "0002" + one + one,
		"a name of 33 bytes":     "0001" + strings.Repeat("01", 32) + " 0021" + strings.Repeat("61", 33) + "0000000000000001",
		"an amount of 0":         "0001" + strings.Repeat("01", 32) + " 0000 0000000000000000",
	}
}

func rightValues() map[string]api.Value {
	return map[string]api.Value{
		"nothing":            val(0),
		"a coin":             val(1),
		"the most coins":     val(most),
		"an asset":           val(0, as(1, "a", 1)),
		"the most of one":    val(7, as(1, "a", most)),
		"some":               val(9, some(5)...),
		"30 assets":          val(1, some(30)...),
		"a name of 32 bytes": val(1, as(1, strings.Repeat("n", 32), 5)),
	}
}

func wrongValues() map[string]api.Value {
	l := map[string]api.Value{
		"a coin below 0":           val(-1),
		"the least coin":           val(least),
		"a coin below 0, assets":   val(-1, some(2)...),
		"an amount below 0":        val(1, as(1, "", -1)),
		"the least amount":         val(1, as(1, "", 1), as(2, "", least)),
		"nothing but an amount -1": val(0, as(1, "", -1)),
	}
	for name, row := range badRows() {
		l[name] = val(3, row...)
	}
	return l
}

func rawValues() map[string]string {
	one := strings.Repeat("01", 32) + " 0001 61 0000000000000001"
	l := map[string]string{
		"a coin below 0":    "ffffffffffffffff 0000",
		"the least coin":    "8000000000000000 0000",
		"no assets' number": "0000000000000001",
		"an amount below 0": "0000000000000001 0001" + strings.Repeat("01", 32) + " 0000 ffffffffffffffff",
		"two, one is":       "0000000000000001 0002" + one,
	}
	for name, s := range rawAssets() {
		l["a coin, and assets: "+name] = "0000000000000001" + s
	}
	return l
}

// manyTotals is so many totals.
func manyTotals(n int) []api.Total {
	var l []api.Total
	for i := range n {
		var x api.Total
		x.Policy[1], x.Policy[2], x.Policy[3] = byte(i>>16), byte(i>>8), byte(i)
		x.Sum.Lo = uint64(i + 1)
		l = append(l, x)
	}
	return l
}

func rightTotals() map[string][]api.Total {
	return map[string][]api.Total{
		"none":               nil,
		"one":                {tot(1, "a", 0, 1)},
		"one below 0":        {tot(1, "a", -1, 1<<64-1)},
		"the least":          {tot(1, "a", least, 0)},
		"the greatest":       {tot(1, "a", most, 1<<64-1)},
		"2^64":               {tot(1, "", 1, 0)},
		"names that rise":    {tot(1, "", 1, 0), tot(1, "a", 0, 5), tot(1, "aa", 1, 2), tot(2, "", 7, 8)},
		"a name of 32 bytes": {tot(1, strings.Repeat("n", 32), 1, 2)},
		"31 totals":          manyTotals(31),
		"65 totals":          manyTotals(65),
	}
}

func wrongTotals() map[string][]api.Total {
	return map[string][]api.Total{
		"a sum of 0":           {tot(1, "a", 0, 0)},
		"one of them of 0":     {tot(1, "a", 0, 1), tot(2, "a", 0, 0), tot(3, "a", 0, 1)},
		"one twice":            {tot(1, "a", 0, 1), tot(1, "a", 0, 2)},
		"names that fall":      {tot(1, "b", 0, 1), tot(1, "a", 0, 2)},
		"policies that fall":   {tot(2, "a", 0, 1), tot(1, "a", 0, 2)},
		"a name of 33 bytes":   {tot(1, strings.Repeat("n", 33), 0, 1)},
		"a name of 2^16 bytes": {tot(1, strings.Repeat("n", 1<<16), 0, 1)},
	}
}

func rawTotals() map[string]string {
	one := strings.Repeat("01", 32) + " 0001 61 0000000000000000 0000000000000001"
	return map[string]string{
		"nothing":                   "",
		"half a number":             "0000",
		"two, of which one is":      "00000002" + one,
		"2^32 - 1, of which one is": "ffffffff" + one,
		"2^31, of which none is":    "80000000",
		"one twice":                 "00000002" + one + one,
		"a name of 33 bytes":        "00000001" + strings.Repeat("01", 32) + " 0021" + strings.Repeat("61", 33) + "0000000000000000 0000000000000001",
		"a sum of 0":                "00000001" + strings.Repeat("01", 32) + " 0000 0000000000000000 0000000000000000",
	}
}

func rightOutputs() map[string]api.Output {
	return map[string]api.Output{
		"nothing at all":             {},
		"to a key":                   plainOut(val(5)),
		"to a program":               {Address: api.Address{Program: true, Hash: h(9, 9)}, Value: val(5)},
		"30 assets":                  plainOut(val(most, some(30)...)),
		"the hash of a datum":        hashOut(val(5, some(2)...), h(7, 8)),
		"a hash of noughts":          hashOut(val(0), api.Hash{}),
		"a hash's last byte":         hashOut(val(0), h(0, 1)),
		"a datum":                    termOut(val(5), num(5)),
		"a datum of nested ones":     termOut(val(5, as(1, "a", 2)), list(pairs(num(1), text("b")), tag(7, realOf(0)))),
		"a datum of 100 nodes":       termOut(val(5), list(nums(99)...)),
		"30 assets, and a datum":     termOut(val(5, some(30)...), nested(16)),
		"a key's output with data":   {Value: val(1), Datum: api.DatumInline, Term: text("x")},
		"a key's output with a hash": {Value: val(1), Datum: api.DatumHash, Hash: h(1, 1)},
	}
}

// datums is kinds of data that are none.
func datums() []api.DatumKind {
	return []api.DatumKind{-1, 3, 4, 255, 256, 257, 258, least, most}
}

func wrongOutputs() map[string]api.Output {
	with := func(o api.Output, set func(*api.Output)) api.Output {
		set(&o)
		return o
	}
	hash := func(o *api.Output) { o.Hash = h(0, 1) }
	data := func(o *api.Output) { o.Term = num(1) }
	odd := func(o *api.Output) { o.Term = nodes(api.Node{}) }
	l := map[string]api.Output{
		"no datum, a hash":              with(plainOut(val(1)), hash),
		"no datum, a term":              with(plainOut(val(1)), data),
		"no datum, a term that is none": with(plainOut(val(1)), odd),
		"no datum, both":                with(with(plainOut(val(1)), data), hash),
		"a hash, and a term":            with(hashOut(val(1), h(1, 1)), data),
		"a hash, and what is no term":   with(hashOut(val(1), h(1, 1)), odd),
		"a hash of noughts, a term":     with(hashOut(val(1), api.Hash{}), data),
		"a term, and a hash":            with(termOut(val(1), num(1)), hash),
		"no term":                       termOut(val(1), nodes()),
		"no term, but a hash":           with(termOut(val(1), nodes()), hash),
		"a term that is none":           termOut(val(1), nodes(api.Node{})),
	}
	for _, k := range datums() {
		o := plainOut(val(1))
		o.Datum = k
		name := "the datum " + strconv.Itoa(int(k))
		l[name] = o
		l[name+", a hash"] = with(o, hash)
		l[name+", a term"] = with(o, data)
	}
	for name, v := range wrongValues() {
		l["no datum, and "+name] = plainOut(v)
		l["a hash, and "+name] = hashOut(v, h(1, 1))
		l["a term, and "+name] = termOut(v, num(1))
	}
	for name, x := range wrongTerms() {
		l["the term: "+name] = termOut(val(1), x)
	}
	return l
}

func rawOutputs() map[string]string {
	key := "00" + strings.Repeat("ab", 32)
	l := map[string]string{
		"nothing":          "",
		"a flag of 2":      "02" + strings.Repeat("ab", 32) + "0000000000000005 0000 00",
		"a flag of 255":    "ff" + strings.Repeat("ab", 32) + "0000000000000005 0000 00",
		"a coin below 0":   key + "ffffffffffffffff 0000 00",
		"no datum's kind":  key + "0000000000000005 0000",
		"the datum 3":      key + "0000000000000005 0000 03",
		"the datum 255":    key + "0000000000000005 0000 ff",
		"half a hash":      key + "0000000000000005 0000 01" + strings.Repeat("cd", 31),
		"no term":          key + "0000000000000005 0000 02",
		"half an address":  "00" + strings.Repeat("ab", 31),
		"the datum 3 more": key + "0000000000000005 0000 03" + strings.Repeat("cd", 40),
	}
	for name, s := range rawTerms() {
		l["a datum: "+name] = key + "0000000000000005 0000 02" + s
	}
	for name, s := range rawValues() {
		l["a bundle: "+name] = key + s
	}
	return l
}

func rightRefs() map[string]api.Ref {
	return map[string]api.Ref{
		"noughts":      {},
		"the place 1":  ref(0, 0, 1),
		"the place 29": ref(9, 9, 29),
		"the place 30": ref(255, 255, 30),
		"any":          {Tx: api.Hash([]byte("abcdefghijklmnopqrstuvwxyz012345")), Place: 7},
	}
}

// places is places that no output has.
func places() []int {
	return []int{-1, 31, 32, 255, 256, 65535, 65536, 65541, 1 << 32, 1<<32 + 3, least, most}
}

func wrongRefs() map[string]api.Ref {
	l := map[string]api.Ref{}
	for _, n := range places() {
		l["the place "+strconv.Itoa(n)] = ref(1, 1, n)
		l["noughts, and the place "+strconv.Itoa(n)] = ref(0, 0, n)
	}
	return l
}

func rawRefs() map[string]string {
	return map[string]string{
		"nothing":         "",
		"half a hash":     strings.Repeat("01", 31),
		"no place":        strings.Repeat("01", 32),
		"half a place":    strings.Repeat("01", 32) + "00",
		"the place 31":    strings.Repeat("01", 32) + "001f",
		"the place 256":   strings.Repeat("01", 32) + "0100",
		"the place 65535": strings.Repeat("01", 32) + "ffff",
	}
}

func rightEntries() map[string][]api.Entry {
	data := entry(ref(4, 0, 2), termOut(val(3, some(2)...), list(num(1))))
	return map[string][]api.Entry{
		"none":                   nil,
		"one":                    entries(at(ref(1, 1, 1))),
		"first bytes that rise":  entries(at(ref(1, 9, 9)), at(ref(2, 0, 0)), at(ref(128, 0, 0))),
		"last bytes that rise":   entries(at(ref(1, 1, 9)), at(ref(1, 2, 0)), at(ref(1, 200, 0))),
		"places that rise":       entries(at(ref(1, 1, 0)), at(ref(1, 1, 1)), at(ref(1, 1, 2)), at(ref(1, 1, 30))),
		"outputs of all sorts":   entries(entry(ref(1, 0, 0), hashOut(val(2), h(1, 2))), at(ref(2, 0, 0)), data),
		"outputs that are alike": entries(at(ref(0, 0, 0)), at(ref(0, 0, 1))),
	}
}

func wrongEntries() map[string][]api.Entry {
	l := map[string][]api.Entry{
		"a ref twice":           entries(at(ref(1, 1, 1)), at(ref(1, 1, 1))),
		"a ref twice, outputs":  entries(at(ref(1, 1, 1)), entry(ref(1, 1, 1), plainOut(val(2)))),
		"a ref twice, not near": entries(at(ref(1, 1, 1)), at(ref(2, 1, 1)), at(ref(1, 1, 1))),
		"first bytes that fall": entries(at(ref(2, 0, 0)), at(ref(1, 9, 9))),
		"128 ahead of 127":      entries(at(ref(128, 0, 0)), at(ref(127, 0, 0))),
		"last bytes that fall":  entries(at(ref(1, 2, 0)), at(ref(1, 1, 9))),
		"places that fall":      entries(at(ref(1, 1, 1)), at(ref(1, 1, 0))),
		"the last one falls":    entries(at(ref(1, 1, 1)), at(ref(2, 1, 1)), at(ref(3, 1, 1)), at(ref(2, 2, 2))),
	}
	for name, row := range rightEntries() {
		if turned := slices.Clone(row); len(row) > 1 {
			slices.Reverse(turned)
			l["turned round: "+name] = turned
		}
	}
	for _, n := range places() {
		l["the place "+strconv.Itoa(n)] = entries(at(ref(1, 1, n)))
		l["the second one's place "+strconv.Itoa(n)] = entries(at(ref(1, 1, 1)), at(ref(2, 1, n)))
	}
	for name, o := range wrongOutputs() {
		l["the output: "+name] = entries(entry(ref(1, 1, 1), o))
	}
	l["the second one's output"] = entries(at(ref(1, 1, 1)), entry(ref(2, 1, 1), plainOut(val(-1))))
	return l
}

func rawEntries() map[string]string {
	x := strings.Repeat("01", 32)
	out := "00" + strings.Repeat("ab", 32) + "0000000000000005 0000 00"
	one, other := x+"0001"+out, x+"0002"+out
	l := map[string]string{
		"nothing":                    "",
		"half a number":              "0000",
		"two, of which one is":       "00000002" + one,
		"2^32 - 1, of which two are": "ffffffff" + one + other,
		"2^31, of which none is":     "80000000",
		"a ref twice":                "00000002" + one + one,
		"turned round":               "00000002" + other + one,
		"the place 31":               "00000001" + x + "001f" + out,
		"no output":                  "00000001" + x + "0001",
	}
	for name, s := range rawOutputs() {
		l["an output: "+name] = "00000001" + x + "0001" + s
	}
	return l
}

// diff is a diff of a few things.
func diff() api.Diff {
	return api.Diff{
		Spent: entries(at(ref(1, 1, 1)), at(ref(3, 1, 1)), at(ref(5, 1, 1))),
		Made:  entries(at(ref(2, 1, 1)), at(ref(3, 1, 2)), entry(ref(6, 1, 1), termOut(val(4, as(1, "", 4)), tag(1, num(1))))),
		Fees:  7, Forfeits: 8,
		Mint: []api.Total{tot(1, "a", 0, 1), tot(2, "", -1, 5)},
	}
}

// diffWith is that diff, with something set.
func diffWith(set func(*api.Diff)) api.Diff {
	d := diff()
	set(&d)
	return d
}

func rightDiffs() map[string]api.Diff {
	return map[string]api.Diff{
		"nothing":               {},
		"a few":                 diff(),
		"nothing spent":         diffWith(func(d *api.Diff) { d.Spent = nil }),
		"nothing made":          diffWith(func(d *api.Diff) { d.Made = nil }),
		"no fees":               diffWith(func(d *api.Diff) { d.Fees = 0 }),
		"no forfeits":           diffWith(func(d *api.Diff) { d.Forfeits = 0 }),
		"the most of both":      diffWith(func(d *api.Diff) { d.Fees, d.Forfeits = most, most }),
		"nothing minted":        diffWith(func(d *api.Diff) { d.Mint = nil }),
		"40 minted":             diffWith(func(d *api.Diff) { d.Mint = manyTotals(40) }),
		"all made behind":       {Spent: entries(at(ref(1, 1, 1))), Made: entries(at(ref(1, 1, 2)))},
		"all made ahead":        {Spent: entries(at(ref(1, 1, 2))), Made: entries(at(ref(1, 1, 1)))},
		"rows of unlike length": diffWith(func(d *api.Diff) { d.Made = d.Made[:1] }),
	}
}

func wrongDiffs() map[string]api.Diff {
	l := map[string]api.Diff{
		"fees of -1":             diffWith(func(d *api.Diff) { d.Fees = -1 }),
		"the least fees":         diffWith(func(d *api.Diff) { d.Fees = least }),
		"forfeits of -1":         diffWith(func(d *api.Diff) { d.Forfeits = -1 }),
		"the least forfeits":     diffWith(func(d *api.Diff) { d.Forfeits = least }),
		"both of -1, no entries": {Fees: -1, Forfeits: -1},
		"the same rows":          diffWith(func(d *api.Diff) { d.Made = d.Spent }),
		"spent twice":            diffWith(func(d *api.Diff) { d.Spent[1] = d.Spent[0] }),
		"made twice":             diffWith(func(d *api.Diff) { d.Made[1] = d.Made[0] }),
		"spent turned round":     diffWith(func(d *api.Diff) { slices.Reverse(d.Spent) }),
		"made turned round":      diffWith(func(d *api.Diff) { slices.Reverse(d.Made) }),
		"a place spent":          diffWith(func(d *api.Diff) { d.Spent[2].Ref.Place = 31 }),
		"a place made":           diffWith(func(d *api.Diff) { d.Made[2].Ref.Place = -1 }),
		"an output spent":        diffWith(func(d *api.Diff) { d.Spent[2].Output.Value.Coin = -1 }),
		"an output made":         diffWith(func(d *api.Diff) { d.Made[2].Output.Hash = h(1, 1) }),
	}
	for name, row := range wrongTotals() {
		l["minted: "+name] = diffWith(func(d *api.Diff) { d.Mint = row })
	}
	for i := range diff().Spent {
		d := diff()
		shared := d.Spent[i].Ref
		l["in both, of spent "+strconv.Itoa(i)+", alone"] = diffWith(func(d *api.Diff) { d.Made = entries(at(shared)) })
		l["in both, of spent "+strconv.Itoa(i)+", another output"] = diffWith(func(d *api.Diff) { d.Made = entries(entry(shared, plainOut(val(99)))) })
		l["in both, of made "+strconv.Itoa(i)+", alone"] = diffWith(func(x *api.Diff) { x.Spent = entries(at(d.Made[i].Ref)) })
		l["in both, of spent "+strconv.Itoa(i)+", among more"] = diffWith(func(d *api.Diff) {
			d.Made = append(d.Made, at(shared))
			slices.SortFunc(d.Made, func(a, b api.Entry) int {
				if stands(a.Ref, b.Ref) {
					return -1
				}
				return 1
			})
		})
	}
	return l
}

func rawDiffs() map[string]string {
	e := strings.Repeat("01", 32) + "0001" + "00" + strings.Repeat("ab", 32) + "0000000000000005 0000 00"
	nought := "0000000000000000"
	l := map[string]string{
		"nothing":        "",
		"in both":        "00000001" + e + "00000001" + e + nought + nought + "00000000",
		"fees of -1":     "00000000 00000000 ffffffffffffffff" + nought + "00000000",
		"forfeits of -1": "00000000 00000000" + nought + "ffffffffffffffff 00000000",
		"no fees":        "00000000 00000000",
		"no totals":      "00000000 00000000" + nought + nought,
		"a total of 0":   "00000000 00000000" + nought + nought + "00000001" + strings.Repeat("01", 32) + "0000" + nought + nought,
	}
	for name, s := range rawEntries() {
		l["spent: "+name] = s
		l["made: "+name] = "00000000" + s
	}
	for name, s := range rawTotals() {
		l["minted: "+name] = "00000000 00000000" + nought + nought + s
	}
	return l
}
