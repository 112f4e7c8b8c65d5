package value

import (
	"math"
	"math/big"
	"math/rand"
	"slices"
	"strconv"
	"strings"
	"testing"

	"moidore/api"
)

const (
	most  = math.MaxInt64
	least = math.MinInt64
	all   = math.MaxUint64
)

// pol is a policy that begins with the one byte and ends with the other.
func pol(first, last byte) api.Hash {
	var h api.Hash
	h[0], h[31] = first, last
	return h
}

// p is the policy of most of the tests.
func p() api.Hash { return pol(7, 7) }

// as is so much of the asset of that name.
func as(name string, n int64) api.Asset { return api.Asset{Policy: p(), Name: name, Amount: n} }

// by is so much of the asset of that policy and name.
func by(policy api.Hash, name string, n int64) api.Asset {
	return api.Asset{Policy: policy, Name: name, Amount: n}
}

func val(coin int64, l ...api.Asset) api.Value { return api.Value{Coin: coin, Assets: l} }

func wide(hi int64, lo uint64) api.Wide { return api.Wide{Hi: hi, Lo: lo} }

func tot(name string, hi int64, lo uint64) api.Total {
	return api.Total{Policy: p(), Name: name, Sum: wide(hi, lo)}
}

// long is a name of so many bytes.
func long(n int) string { return strings.Repeat("x", n) }

// many is so many assets that rise, beginning with the from-th.
func many(from, n int) []api.Asset {
	l := make([]api.Asset, n)
	for i := range l {
		l[i] = as(string(rune('A'+(from+i)/26))+string(rune('a'+(from+i)%26)), 1)
	}
	return l
}

func number(n int64) string { return strconv.FormatInt(n, 10) }

// toldName is a policy and a name as they are told of.
func toldName(h api.Hash, name string) string {
	return number(int64(h[0])) + "/" + number(int64(h[31])) + "/" + strconv.Quote(name) + ":"
}

// told is a bundle as it is told of.
func told(v api.Value) string {
	l := []string{number(v.Coin)}
	for _, a := range v.Assets {
		l = append(l, toldName(a.Policy, a.Name)+number(a.Amount))
	}
	return "[" + strings.Join(l, " ") + "]"
}

func toldAll(l []api.Value) string {
	var s []string
	for _, v := range l {
		s = append(s, told(v))
	}
	return strings.Join(s, " + ")
}

// toldTotals is totals as they are told of.
func toldTotals(l []api.Total) string {
	var s []string
	for _, t := range l {
		s = append(s, toldName(t.Policy, t.Name)+toldWide(t.Sum))
	}
	return "[" + strings.Join(s, " ") + "]"
}

func toldWide(w api.Wide) string {
	return number(w.Hi) + ":" + strconv.FormatUint(w.Lo, 10)
}

// alike says whether two bundles are the same; an empty list of assets and a nil one are one.
func alike(a, b api.Value) bool { return a.Coin == b.Coin && slices.Equal(a.Assets, b.Assets) }

// Below is what the tests hold the package's answers against: whole numbers without an end, and names as texts, of which each one's policy stands ahead.

// tally is sums, by policies and names.
type tally map[string]*big.Int

func key(h api.Hash, name string) string { return string(h[:]) + name }

func (t tally) put(h api.Hash, name string, n *big.Int) {
	k := key(h, name)
	if t[k] == nil {
		t[k] = new(big.Int)
	}
	t[k].Add(t[k], n)
}

func (t tally) assets(sign int64, l ...api.Asset) {
	for _, a := range l {
		t.put(a.Policy, a.Name, new(big.Int).Mul(big.NewInt(sign), big.NewInt(a.Amount)))
	}
}

// bundles puts bundles, their coins by a name that no asset has.
func (t tally) bundles(sign int64, l ...api.Value) {
	for _, v := range l {
		if t["coins"] == nil {
			t["coins"] = new(big.Int)
		}
		t["coins"].Add(t["coins"], new(big.Int).Mul(big.NewInt(sign), big.NewInt(v.Coin)))
		t.assets(sign, v.Assets...)
	}
}

// keys is all but the coins', as they rise.
func (t tally) keys() []string {
	var l []string
	for k := range t {
		if k != "coins" {
			l = append(l, k)
		}
	}
	slices.Sort(l)
	return l
}

func (t tally) coins() *big.Int {
	if t["coins"] == nil {
		return new(big.Int)
	}
	return t["coins"]
}

// bundle is the bundle of the sums, if there is a right one.
func (t tally) bundle() (api.Value, bool) {
	var v api.Value
	if !t.coins().IsInt64() || t.coins().Sign() < 0 {
		return api.Value{}, false
	}
	v.Coin = t.coins().Int64()
	for _, k := range t.keys() {
		if t[k].Sign() == 0 {
			continue
		}
		if !t[k].IsInt64() || t[k].Sign() < 0 {
			return api.Value{}, false
		}
		v.Assets = append(v.Assets, by(api.Hash([]byte(k[:32])), k[32:], t[k].Int64()))
	}
	if len(v.Assets) > 30 {
		return api.Value{}, false
	}
	return v, true
}

// totals is the sums but those of 0, modulo 2^128.
func (t tally) totals() []api.Total {
	var l []api.Total
	for _, k := range t.keys() {
		w := narrowed(t[k])
		if w.Hi != 0 || w.Lo != 0 {
			l = append(l, api.Total{Policy: api.Hash([]byte(k[:32])), Name: k[32:], Sum: w})
		}
	}
	return l
}

// even says whether all sums are 0.
func (t tally) even() bool {
	for _, n := range t {
		if n.Sign() != 0 {
			return false
		}
	}
	return true
}

// power is 2^n.
func power(n uint) *big.Int { return new(big.Int).Lsh(big.NewInt(1), n) }

// whole is the number that w is.
func whole(w api.Wide) *big.Int {
	n := new(big.Int).Mul(big.NewInt(w.Hi), power(64))
	return n.Add(n, new(big.Int).SetUint64(w.Lo))
}

// narrowed is n modulo 2^128, from -2^127 on.
func narrowed(n *big.Int) api.Wide {
	n = new(big.Int).Mod(n, power(128))
	if n.Cmp(power(127)) >= 0 {
		n.Sub(n, power(128))
	}
	hi, lo := new(big.Int).DivMod(n, power(64), new(big.Int))
	return wide(hi.Int64(), lo.Uint64())
}

// right says whether v is, by the chapter's words, one by one.
func right(v api.Value) bool {
	if v.Coin < 0 || len(v.Assets) > 30 {
		return false
	}
	for i, a := range v.Assets {
		if len(a.Name) > 32 || a.Amount < 1 {
			return false
		}
		if i > 0 && key(v.Assets[i-1].Policy, v.Assets[i-1].Name) >= key(a.Policy, a.Name) {
			return false
		}
	}
	return true
}

// Below are bundles of all sorts.

func names() []string {
	return []string{"", "\x00", "a", "a\x00", "ab", "b", long(31), long(32), "\x7f", "\x80", "\xff"}
}

func policies() []api.Hash {
	return []api.Hash{{}, pol(0, 1), pol(1, 0), p(), pol(128, 0), pol(255, 255)}
}

// anyAmount is an amount of a right bundle, mostly one at an end.
func anyAmount(r *rand.Rand) int64 {
	switch r.Intn(8) {
	case 0:
		return most
	case 1:
		return most - r.Int63n(3)
	case 2:
		return 1 << 62
	case 3:
		return 1 + r.Int63n(most)
	}
	return 1 + r.Int63n(4)
}

// anyNumber is any number, mostly one at an end.
func anyNumber(r *rand.Rand) int64 {
	l := []int64{least, least + 1, -1 << 62, -2, -1, 0, 0, 1, 2, 1 << 62, most - 1, most}
	if i := r.Intn(len(l) + 2); i < len(l) {
		return l[i]
	}
	return int64(r.Uint64())
}

// anyRight is a right bundle.
func anyRight(r *rand.Rand) api.Value {
	v := val(r.Int63n(5))
	if r.Intn(3) == 0 {
		v.Coin = anyAmount(r)
	}
	odds := 1 + r.Intn(30)
	for _, h := range policies() {
		for _, s := range names() {
			if r.Intn(odds) == 0 && len(v.Assets) < 30 {
				v.Assets = append(v.Assets, by(h, s, anyAmount(r)))
			}
		}
	}
	return v
}

// spoilt is v with something turned: mostly it is not right.
func spoilt(r *rand.Rand, v api.Value) api.Value {
	v = clone(v)
	if len(v.Assets) == 0 || r.Intn(6) == 0 {
		v.Coin = anyNumber(r)
		return v
	}
	i, k := r.Intn(len(v.Assets)), r.Intn(len(v.Assets))
	switch r.Intn(6) {
	case 0:
		v.Assets[i].Amount = anyNumber(r)
	case 1:
		v.Assets[i].Name += long(r.Intn(3))
	case 2:
		v.Assets[i].Name = long(31 + r.Intn(3))
	case 3:
		v.Assets[i], v.Assets[k] = v.Assets[k], v.Assets[i]
	case 4:
		v.Assets = slices.Insert(v.Assets, i, v.Assets[k])
	case 5:
		v.Assets[i].Policy = v.Assets[k].Policy
	}
	return v
}

// anyBundle is a bundle, right or not.
func anyBundle(r *rand.Rand) api.Value {
	v := anyRight(r)
	for range r.Intn(4) {
		v = spoilt(r, v)
	}
	return v
}

// bundles is so many bundles, made by one.
func bundles(r *rand.Rand, n int, one func(*rand.Rand) api.Value) []api.Value {
	var l []api.Value
	for range n {
		l = append(l, one(r))
	}
	return l
}

// anyWide is a wide number, mostly one at an end.
func anyWide(r *rand.Rand) api.Wide {
	los := []uint64{0, 0, 1, 2, most, most + 1, all - 1, all, r.Uint64()}
	return wide(anyNumber(r), los[r.Intn(len(los))])
}

// anyTotals is a row of totals, in order or not, some of 0, some twice.
func anyTotals(r *rand.Rand) []api.Total {
	var l []api.Total
	for range r.Intn(8) {
		t := api.Total{Policy: policies()[r.Intn(3)], Name: append(names(), long(33))[r.Intn(12)], Sum: anyWide(r)}
		l = append(l, t)
		if r.Intn(4) == 0 {
			t.Sum = narrowed(new(big.Int).Neg(whole(t.Sum)))
			l = append(l, t)
		}
	}
	return l
}

// clone is a bundle in memory of its own.
func clone(v api.Value) api.Value {
	v.Assets = slices.Clone(v.Assets)
	for i := range v.Assets {
		v.Assets[i].Name = strings.Clone(v.Assets[i].Name)
	}
	return v
}

func cloneAll(l []api.Value) []api.Value {
	l = slices.Clone(l)
	for i := range l {
		l[i] = clone(l[i])
	}
	return l
}

// The tests' own bundles are right, and not, as often as it takes.
func TestBundles(t *testing.T) {
	r := rand.New(rand.NewSource(1))
	count := map[bool]int{}
	for range 10000 {
		if v := anyRight(r); !right(v) {
			t.Fatalf("%s is not right", told(v))
		}
		count[right(anyBundle(r))]++
	}
	if count[true] < 2000 || count[false] < 2000 {
		t.Errorf("%v", count)
	}
}

// The chapter's examples.
func TestExamples(t *testing.T) {
	wantAdd(t, "5 coins, and 2^63 - 1", false, val(0), val(5), val(most))
	if !Balance([]api.Value{val(most), val(most)}, nil, []api.Value{val(most), val(most - 1)}, 1) {
		t.Error("2^63 - 1 twice does not balance")
	}
	wantSub(t, "all that there is", val(3, as("a", 4)), val(3, as("a", 4)), true, val(0))
	// DOC.md's third one.
	if !Balance([]api.Value{val(most), val(most)}, nil, []api.Value{val(most), val(most - 20)}, 20) {
		t.Error("2^63 - 21 and the fee 20 do not balance")
	}
}
