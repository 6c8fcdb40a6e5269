package metro_test

import (
	"fmt"
	"math/big"
	"math/rand/v2"
	"testing"

	"bulla/api"
	"bulla/metro"
)

// model knows the factors between connected ladders, calculated with fractions of any size.
type model map[[2]string]*big.Rat

// newModel returns the factors that follow from bridges, or false if they contradict each other.
func newModel(l []api.Ladder, b []api.Bridge) (model, bool) {
	m, ladders := model{}, map[string]api.Ladder{}
	for _, x := range l {
		m[[2]string{x.Name, x.Name}] = big.NewRat(1, 1)
		ladders[x.Name] = x
	}
	for _, x := range b {
		f := rat(x.R)
		f.Mul(f, big.NewRat(valueOf(ladders[x.B], x.SignB), valueOf(ladders[x.A], x.SignA)))
		if known := m[[2]string{x.A, x.B}]; known == nil {
			m.join(x.A, x.B, f)
		} else if known.Cmp(f) != 0 {
			return nil, false
		}
	}
	return m, true
}

// join adds the factors between all that is connected with a and all that is connected with b.
func (m model) join(a, b string, f *big.Rat) {
	added := model{}
	for left, toA := range m {
		for right, fromB := range m {
			if left[1] == a && right[0] == b {
				x := new(big.Rat).Mul(toA, f)
				x.Mul(x, fromB)
				added[[2]string{left[0], right[1]}] = x
				added[[2]string{right[1], left[0]}] = new(big.Rat).Inv(x)
			}
		}
	}
	for pair, x := range added {
		m[pair] = x
	}
}

// pairs are the names of connected ladders, in order.
func (m model) pairs(l []api.Ladder) [][2]string {
	var pairs [][2]string
	for _, a := range l {
		for _, b := range l {
			if pair := [2]string{a.Name, b.Name}; m[pair] != nil {
				pairs = append(pairs, pair)
			}
		}
	}
	return pairs
}

func someNumber(random *rand.Rand) int { return int(random.Uint64N(1 << random.Uint64N(41))) }

func valueOf(l api.Ladder, sign string) int64 {
	value := 1
	for _, u := range l.Units {
		value *= u.Factor
		if u.Sign == sign {
			break
		}
	}
	return int64(value)
}

// someBook returns ladders, and bridges between them that seldom contradict each other.
func someBook(random *rand.Rand) ([]api.Ladder, []api.Bridge) {
	var l []api.Ladder
	var worth []int64
	for i := range 2 + random.IntN(6) {
		l = append(l, ladder(string(rune('a'+i)), []int{1, 2 + random.IntN(59), 2 + random.IntN(59), 2 + random.IntN(59)}[:1+random.IntN(4)]...))
		worth = append(worth, 1+random.Int64N(1<<(1+random.Uint64N(14))))
	}
	var b []api.Bridge
	for range random.IntN(3 * len(l)) {
		i, j := random.IntN(len(l)), random.IntN(len(l))
		signA, signB := l[i].Units[random.IntN(len(l[i].Units))].Sign, l[j].Units[random.IntN(len(l[j].Units))].Sign
		q, e := fitted(big.NewRat(worth[i]*valueOf(l[i], signA), worth[j]*valueOf(l[j], signB)))
		if random.IntN(40) == 0 {
			q, e = fitted(new(big.Rat).Add(rat(r(q.N, max(1, q.D))), big.NewRat(1, 3)))
		}
		if e == api.OK {
			b = append(b, bridge(l[i].Name, signA, l[j].Name, signB, q))
		}
	}
	return l, b
}

// turned returns the bridges in another order, some of them written in the other direction.
func turned(random *rand.Rand, b []api.Bridge) []api.Bridge {
	var other []api.Bridge
	for _, i := range random.Perm(len(b)) {
		x := b[i]
		if x.R.N <= api.MaxDen && random.IntN(2) == 0 {
			x = bridge(x.B, x.SignB, x.A, x.SignA, r(x.R.D, x.R.N))
		}
		other = append(other, x)
	}
	return other
}

// forBooks calls f with some books, their ladders, and the factors that they must have.
func forBooks(t *testing.T, f func(random *rand.Rand, k *metro.Book, l []api.Ladder, m model)) {
	t.Helper()
	random, good, contrary := rand.New(rand.NewPCG(1, 2)), 0, 0
	for range 400 {
		l, b := someBook(random)
		m, ok := newModel(l, b)
		for _, bridges := range [][]api.Bridge{b, turned(random, b), turned(random, b)} {
			want := api.ErrBridge
			if ok {
				want = api.OK
			}
			expectBook(t, fmt.Sprint(bridges), l, bridges, want)
			if k, e := metro.NewBook(l, bridges); e == api.OK && ok {
				f(random, k, l, m)
				good++
			} else {
				contrary++
			}
		}
	}
	if good < 300 || contrary < 30 {
		t.Errorf("%d books, %d with contradictions: too few to try", good, contrary)
	}
}

// P1.9, P1.11, P1.16: neither the order nor the direction of bridges matters.
func TestFactorsOfSomeBooks(t *testing.T) {
	forBooks(t, func(_ *rand.Rand, k *metro.Book, l []api.Ladder, m model) {
		for _, a := range l {
			for _, b := range l {
				want, wantError := api.Ratio{}, api.ErrApart
				if x := m[[2]string{a.Name, b.Name}]; x != nil {
					want, wantError = fitted(x)
				}
				q, e := k.Factor(a.Name, b.Name)
				expect(t, fmt.Sprintf("Factor(%s, %s)", a.Name, b.Name), q, e, want, wantError)
			}
		}
	})
}

// P1.16: a chain of conversions agrees with the conversion from the first ladder to the last one.
func TestChainsAgree(t *testing.T) {
	forBooks(t, func(random *rand.Rand, k *metro.Book, l []api.Ladder, m model) {
		for _, x := range l {
			group := k.Group(x.Name)
			names := []string{x.Name}
			for range random.IntN(10) {
				names = append(names, group[random.IntN(len(group))])
			}
			last := names[len(names)-1]
			want, wantError := k.Factor(x.Name, last)
			q, e := k.Chain(names)
			expect(t, fmt.Sprintf("Chain(%v)", names), q, e, want, wantError)
			for _, other := range l {
				if m[[2]string{last, other.Name}] == nil {
					q, e = k.Chain(append(names, other.Name))
					expect(t, fmt.Sprintf("Chain(%v, %s)", names, other.Name), q, e, api.Ratio{}, api.ErrApart)
				}
			}
		}
	})
}

// P1.12, P1.16: conversions are exact, and lead back if they are whole.
func TestConversionsLeadBack(t *testing.T) {
	whole := 0
	forBooks(t, func(random *rand.Rand, k *metro.Book, l []api.Ladder, m model) {
		for _, pair := range m.pairs(l) {
			n, x := someNumber(random), m[pair]
			if _, e := fitted(x); e == api.OK && random.IntN(2) == 0 {
				n = n >> 20 * int(x.Denom().Int64())
			}
			want, wantError := fitted(new(big.Rat).Mul(x, big.NewRat(int64(n), 1)))
			q, e := k.Convert(amount(pair[0], n), pair[1])
			expect(t, fmt.Sprintf("Convert(%d %s, %s)", n, pair[0], pair[1]), q, e, want, wantError)
			if e == api.OK && q.D == 1 {
				back, e := k.Convert(amount(pair[1], q.N), pair[0])
				expect(t, fmt.Sprintf("Convert(%d %s, %s) and back", n, pair[0], pair[1]), back, e, r(n, 1), api.OK)
				whole++
			}
		}
	})
	if whole < 1000 {
		t.Errorf("%d whole conversions: too few to try", whole)
	}
}

// P1.17
func TestWholeLosesNothing(t *testing.T) {
	forBooks(t, func(random *rand.Rand, k *metro.Book, l []api.Ladder, m model) {
		for _, pair := range m.pairs(l) {
			n := someNumber(random)
			all, e := k.Convert(amount(pair[0], n), pair[1])
			q, rest, f := k.Whole(amount(pair[0], n), pair[1])
			if e != api.OK {
				expectWhole(t, k, amount(pair[0], n), pair[1], api.Amount{}, api.Ratio{}, e)
				continue
			}
			sum := new(big.Rat).Add(rat(r(q.N, 1)), rat(rest))
			if f != api.OK || q.Ladder != pair[1] || !metro.IsRatio(rest) || rest.N < 0 || rest.N >= rest.D || sum.Cmp(rat(all)) != 0 {
				t.Errorf("Whole(%d %s, %s): %v and %v, error %d; Convert: %v", n, pair[0], pair[1], q, rest, f, all)
			}
		}
	})
}
