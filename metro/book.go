package metro

import (
	"slices"

	"bulla/api"
)

// Book is a set of ladders, connected by bridges.
type Book struct {
	names   []string
	ladders map[string]api.Ladder
	links   map[string][]link // from each ladder; they form no rings
}

// link leads to a ladder, of whose smallest units factor make one smallest unit of the ladder that it leads from.
type link struct {
	to     string
	factor quotient
}

// NewBook returns a book.
func NewBook(l []api.Ladder, b []api.Bridge) (*Book, api.Errno) {
	if len(l) > api.MaxLadders || len(b) > api.MaxBridges {
		return nil, api.ErrLimit
	}
	k := &Book{ladders: map[string]api.Ladder{}, links: map[string][]link{}}
	for _, x := range l {
		if e := k.add(x); e != api.OK {
			return nil, e
		}
	}
	for _, x := range b {
		if e := k.connect(x); e != api.OK {
			return nil, e
		}
	}
	return k, api.OK
}

func (k *Book) add(l api.Ladder) api.Errno {
	if e := first(Check(l), unless(k.known(l.Name) == api.ErrNone, api.ErrArg)); e != api.OK {
		return e
	}
	k.names = append(k.names, l.Name)
	k.ladders[l.Name] = copied(l)
	return api.OK
}

// connect adds a bridge, but no link if its ladders are connected already: then it says nothing new.
func (k *Book) connect(b api.Bridge) api.Errno {
	if e := k.known(b.A, b.B); e != api.OK {
		return e
	}
	valueA, unitA := Value(k.ladders[b.A], b.SignA)
	valueB, unitB := Value(k.ladders[b.B], b.SignB)
	if e := first(unitA, unitB, unless(IsRatio(b.R) && b.R.N > 0, api.ErrArg)); e != api.OK {
		return e
	}
	factor := quotient{up: []int{b.R.N, valueB}, down: []int{b.R.D, valueA}}
	if old, ok := k.path(b.A, b.B, ""); ok {
		times, e := old.times(factor.inverse()).ratio()
		return unless(e == api.OK && times == api.Ratio{N: 1, D: 1}, api.ErrBridge)
	}
	k.links[b.A] = append(k.links[b.A], link{b.B, factor})
	k.links[b.B] = append(k.links[b.B], link{b.A, factor.inverse()})
	return api.OK
}

// path returns the factor from one ladder to another one, and whether they are connected. It does not go back to the ladder before, which is enough to come to an end where there are no rings.
func (k *Book) path(from, to, before string) (factor quotient, connected bool) {
	if from == to {
		return quotient{}, true
	}
	for _, l := range k.links[from] {
		if l.to == before {
			continue
		}
		if rest, ok := k.path(l.to, to, from); ok {
			return l.factor.times(rest), true
		}
	}
	return quotient{}, false
}

// known returns ErrNil for a nil or zero book, and ErrNone unless it has all these ladders.
func (k *Book) known(names ...string) api.Errno {
	if k == nil || k.ladders == nil {
		return api.ErrNil
	}
	for _, name := range names {
		if _, ok := k.ladders[name]; !ok {
			return api.ErrNone
		}
	}
	return api.OK
}

// copied returns l with units of its own.
func copied(l api.Ladder) api.Ladder {
	return api.Ladder{Name: l.Name, Units: slices.Clone(l.Units)}
}

// Names returns the names of the ladders.
func (k *Book) Names() []string {
	if k.known() != api.OK {
		return nil
	}
	return slices.Clone(k.names)
}

// Ladder returns a ladder.
func (k *Book) Ladder(name string) (api.Ladder, api.Errno) {
	if e := k.known(name); e != api.OK {
		return api.Ladder{}, e
	}
	return copied(k.ladders[name]), api.OK
}

// Group returns the names of the ladders that are connected with one.
func (k *Book) Group(name string) []string {
	if k.known(name) != api.OK {
		return nil
	}
	var group []string
	for _, other := range k.names {
		if _, ok := k.path(name, other, ""); ok {
			group = append(group, other)
		}
	}
	return group
}

// Factor returns the factor from one ladder to another one.
func (k *Book) Factor(from, to string) (api.Ratio, api.Errno) {
	return k.Convert(api.Amount{Ladder: from, N: 1}, to)
}

// Chain returns the product of the factors along some ladders.
func (k *Book) Chain(names []string) (api.Ratio, api.Errno) {
	e := first(k.known(), unless(len(names) > 0, api.ErrArg), unless(len(names) <= api.MaxSteps, api.ErrLimit), k.known(names...))
	if e != api.OK {
		return api.Ratio{}, e
	}
	for _, name := range names[1:] {
		if _, ok := k.path(names[0], name, ""); !ok {
			return api.Ratio{}, api.ErrApart
		}
	}
	// Bridges never contradict each other, so that all that lies between cancels out.
	return k.Factor(names[0], names[len(names)-1])
}

// Convert returns an amount in the smallest units of another ladder.
func (k *Book) Convert(a api.Amount, to string) (api.Ratio, api.Errno) {
	if e := first(k.known(a.Ladder, to), inRange(a.N)); e != api.OK {
		return api.Ratio{}, e
	}
	factor, ok := k.path(a.Ladder, to, "")
	if !ok {
		return api.Ratio{}, api.ErrApart
	}
	return factor.times(quotient{up: []int{a.N}}).ratio()
}

// Whole returns the whole units of a conversion, and the rest.
func (k *Book) Whole(a api.Amount, to string) (q api.Amount, rest api.Ratio, e api.Errno) {
	r, e := k.Convert(a, to)
	if e != api.OK {
		return api.Amount{}, api.Ratio{}, e
	}
	n, rest, e := Floor(r)
	return api.Amount{Ladder: to, N: n}, rest, e
}
