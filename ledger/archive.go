package ledger

import (
	"cmp"
	"slices"
	"strconv"

	"bulla/api"
)

// mostWithin is within how many days, at most, counterparts are looked for.
const mostWithin = 400

// archive is a list of valid periods.
type archive struct {
	auditor
	periods []api.Period
	spans   []api.Span       // the days of each period
	holders map[string][]int // the periods of each holder
}

// newArchive returns the archive of some periods, or the first error of a function that looks for counterparts within some days.
func newArchive(c api.Calendar, l []api.Period, days int) (archive, api.Errno) {
	a, e := newAuditor(c)
	if e = cmp.Or(e, a.checkList(l)); e != api.OK {
		return archive{}, e
	}
	if days < 0 || days > mostWithin {
		return archive{}, api.ErrRange
	}
	x := archive{auditor: a, periods: l, holders: map[string][]int{}}
	for i, p := range l {
		x.spans = append(x.spans, api.Span{First: a.day(p.From), Last: a.day(p.To)})
		x.holders[p.Holder] = append(x.holders[p.Holder], i)
	}
	return x, api.OK
}

// Matching returns the matching of the deals of an archive.
func Matching(c api.Calendar, l []api.Period, days int) ([]api.Match, api.Errno) {
	a, e := newArchive(c, l, days)
	if e != api.OK {
		return nil, e
	}
	return a.matching(days), api.OK
}

// matching returns the matching within some days. Deals can only match if they have the same giver, taker and lots, so that the deals of each such trade are matched by themselves.
func (a archive) matching(days int) []api.Match {
	var all []api.Match
	names := a.names()
	for _, giver := range names {
		for _, taker := range names {
			outs, ins := a.sides(giver, taker, false), a.sides(taker, giver, true)
			for lots, l := range outs {
				all = append(all, newTrade(l, ins[lots], days).matching()...)
			}
		}
	}
	slices.SortFunc(all, func(x, y api.Match) int { return compareRefs(x.Out, y.Out) })
	return all
}

// names returns the names of all holders in order.
func (a archive) names() []string {
	var names []string
	for name := range a.holders {
		names = append(names, name)
	}
	slices.Sort(names)
	return names
}

func compareRefs(x, y api.Ref) int {
	return cmp.Or(cmp.Compare(x.Period, y.Period), cmp.Compare(x.Deal, y.Deal))
}

// side is a deal, as it stands in the account of one of the two holders, and the number of its day.
type side struct {
	ref api.Ref
	day int
}

// sides returns, by the text of their lots, the deals in which a holder receives from another one, or gives to that one. Those of the same lots are in order.
func (a archive) sides(holder, with string, in bool) map[string][]side {
	l := map[string][]side{}
	for _, i := range a.holders[holder] {
		for j, d := range a.periods[i].Deals {
			if d.With == with && d.In == in {
				lots := textOfLots(d.Lots)
				l[lots] = append(l[lots], side{api.Ref{Period: i, Deal: j}, a.day(d.On)})
			}
		}
	}
	return l
}

// textOfLots returns a text that only equal lots have.
func textOfLots(l []api.Lot) string {
	var text []byte
	for _, x := range l {
		text = append(text, x.Good...)
		text = append(text, ' ')
		text = strconv.AppendInt(text, int64(x.N), 10)
		text = append(text, ' ')
	}
	return string(text)
}
