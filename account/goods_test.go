package account_test

import (
	"fmt"
	"testing"

	"bulla/account"
	"bulla/api"
	"bulla/metro"
)

// manyGoods returns n plain goods.
func manyGoods(n int) []api.Good {
	var g []api.Good
	for i := range n {
		g = append(g, good(fmt.Sprintf("g%02d", i), "count"))
	}
	return g
}

// badGoods are goods with the first error that they have.
func badGoods() []struct {
	g []api.Good
	e api.Errno
} {
	plain := []api.Good{good("a", "count"), good("b", "count"), good("c", "grain"), good("ab", "count", "a", "b")}
	with := func(x ...api.Good) []api.Good { return append(plain[:4:4], x...) }
	l := []struct {
		g []api.Good
		e api.Errno
	}{
		{manyGoods(33), api.ErrLimit},
		{append(manyGoods(32), api.Good{}), api.ErrLimit},
		{with(good("a", "grain")), api.ErrGood},
		{with(good("a", "none")), api.ErrGood},
		{with(good("ab", "count")), api.ErrGood},
		{with(good("d", "none")), api.ErrNone},
		{with(good("d", "")), api.ErrNone},
		{with(good("d", "none", "z")), api.ErrNone},
		{with(good("d", "count", "b", "a")), api.ErrGood},
		{with(good("d", "count", "a", "a")), api.ErrGood},
		{with(good("d", "count", "z")), api.ErrGood},
		{with(good("d", "count", "a", "z")), api.ErrGood},
		{with(good("d", "count", "d")), api.ErrGood},
		{with(good("d", "count", "e"), good("e", "count")), api.ErrGood},
		{with(good("d", "count", "c")), api.ErrGood},
		{with(good("d", "grain", "a")), api.ErrGood},
		{with(good("d", "count", "a", "c")), api.ErrGood},
		{with(good("d", "count", "ab")), api.ErrGood},
		{with(good("d", "count", "a", "ab")), api.ErrGood},
		{with(good("d", "count", "")), api.ErrGood},
		{with(good("d", "count", "", "a")), api.ErrGood},
		{with(good("d", "none"), good("a", "count")), api.ErrNone},
		{with(good("a", "count"), good("d", "none")), api.ErrGood},
	}
	for _, name := range notNames() {
		l = append(l, struct {
			g []api.Good
			e api.Errno
		}{with(good(name, "none")), api.ErrGood})
	}
	return l
}

// P5.2: CheckGoods.
func TestCheckGoods(t *testing.T) {
	k := book(t)
	for _, g := range [][]api.Good{
		nil, {}, sampleGoods(), manyGoods(32), {good(longest, "weight")}, {good("b", "count"), good("a", "count"), good("all", "count", "a", "b")},
		{good("a", "count"), good("all", "count", "a"), good("every", "count", "a"), good("b", "count"), good("both", "count", "a", "b")}, {{Name: "a", Ladder: "area", Of: []string{}}},
	} {
		expectError(t, show(g), account.CheckGoods(k, g), api.OK)
	}
	for _, x := range badGoods() {
		expectError(t, fmt.Sprintf("CheckGoods(%.300s)", show(x.g)), account.CheckGoods(k, x.g), x.e)
	}
	empty, e := metro.NewBook(nil, nil)
	expectError(t, "NewBook", e, api.OK)
	expectError(t, "no goods without ladders", account.CheckGoods(empty, nil), api.OK)
	expectError(t, "goods without ladders", account.CheckGoods(empty, sampleGoods()), api.ErrNone)
}

// P5.2: without a book everything is ErrNil, whatever the other arguments are.
func TestNoBook(t *testing.T) {
	for _, k := range noBooks() {
		for _, g := range [][]api.Good{nil, sampleGoods(), manyGoods(33), {{}}} {
			for _, x := range []api.Tablet{{}, parsed(t, sample)} {
				expectError(t, "CheckGoods", account.CheckGoods(k, g), api.ErrNil)
				p, e := account.Build(k, g, x)
				expectZero(t, "Build", p, e, api.ErrNil)
				l, e := account.Entries(k, g, x)
				expectZero(t, "Entries", l, e, api.ErrNil)
				y, e := account.Correct(k, g, x, nil)
				expectZero(t, "Correct", y, e, api.ErrNil)
			}
		}
		for _, p := range []api.Puzzle{{}, samplePuzzle(t, book(t)), puzzle(65, "count"), puzzle(1, "none", rule(7))} {
			expectError(t, "CheckPuzzle", account.CheckPuzzle(k, p), api.ErrNil)
			v, e := account.Read(k, p)
			expectZero(t, "Read", v, e, api.ErrNil)
			for _, v := range [][]int{nil, {0}, sampleValues()} {
				for name, call := range valued(k, p, v) {
					got, e := call()
					if got != "" || e != api.ErrNil {
						t.Errorf("%s: %s, error %d", name, got, e)
					}
				}
			}
		}
	}
}

// valued are the calls of all functions with values; they return the empty text for zero results.
func valued(k *metro.Book, p api.Puzzle, v []int) map[string]func() (string, api.Errno) {
	list := func(n int, x any, e api.Errno) (string, api.Errno) {
		if n == 0 {
			return "", e
		}
		return show(x), e
	}
	return map[string]func() (string, api.Errno){
		"Sums": func() (string, api.Errno) {
			x, e := account.Sums(k, p, v)
			return list(len(x), x, e)
		},
		"Wrong": func() (string, api.Errno) {
			x, e := account.Wrong(k, p, v)
			return list(len(x), x, e)
		},
		"Cost": func() (string, api.Errno) {
			x, e := account.Cost(k, p, v, []api.Fix{{}})
			return list(x, x, e)
		},
		"Apply": func() (string, api.Errno) {
			x, e := account.Apply(k, p, v, []api.Fix{{}})
			return list(len(x), x, e)
		},
		"Repair": func() (string, api.Errno) {
			x, e := account.Repair(k, p, v, -1)
			return list(len(x), x, e)
		},
		"Repairs": func() (string, api.Errno) {
			x, e := account.Repairs(k, p, v, -1, 0)
			return list(len(x), x, e)
		},
	}
}
