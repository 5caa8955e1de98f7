package shop_test

import (
	"math/rand"
	"slices"
	"testing"

	"cracknel/api"
	"cracknel/shop"
)

// mostShares returns how many permutations of n jobs there may be.
func mostShares(n int) int { return n*n - 2*n + 2 }

// expectShares checks Shares by what chapter 8 says (O2), and Makes.
func expectShares(t *testing.T, table grid) []share {
	t.Helper()
	shares, e := shop.Shares(table)
	if e != api.OK || len(shares) > mostShares(len(table)) {
		t.Fatalf("Shares(%v): %d permutations, error %d", table, len(shares), e)
	}
	left := copied(table)
	for _, s := range shares {
		sorted := slices.Clone(s.To)
		slices.Sort(sorted)
		for i, machine := range sorted {
			if machine != i {
				t.Fatalf("Shares(%v): the permutation %v", table, s.To)
			}
		}
		if s.Count < 1 || len(s.To) != len(table) {
			t.Fatalf("Shares(%v): the share %v", table, s)
		}
		for job, machine := range s.To {
			left[job][machine] -= s.Count
		}
	}
	for _, row := range left {
		if slices.ContainsFunc(row, func(x int) bool { return x != 0 }) {
			t.Fatalf("Shares(%v) = %v leaves %v", table, shares, left)
		}
	}
	expectMakes(t, table, shares, true)
	return shares
}

// expectNoShares checks that a table is refused.
func expectNoShares(t *testing.T, table grid) {
	t.Helper()
	shares, e := shop.Shares(table)
	expectError(t, "Shares", shares, e, api.ErrArg)
	ok, e := shop.Makes(table, nil)
	expectError(t, "Makes", ok, e, api.ErrArg)
	ok, e = shop.Makes(table, permutations("1 0"))
	expectError(t, "Makes", ok, e, api.ErrArg)
}

func TestShares(t *testing.T) {
	for _, text := range []string{"7", "1000", "2 1, 1 2", "5 0, 0 5", "0 5, 5 0", "1 1 1, 1 1 1, 1 1 1", "0 1 1, 1 0 1, 1 1 0", "1000 1000, 1000 1000"} {
		expectShares(t, times(text))
	}
	for n := 1; n <= api.MaxShop; n++ {
		expectShares(t, filled(n, n, 1))
		expectShares(t, filled(n, n, api.MaxWork))
		if shares := expectShares(t, filled(n, n, 0)); len(shares) > 0 {
			t.Errorf("no work is %v", shares)
		}
	}
}

// O2, with few and with many permutations.
func TestSharesOfRandomTables(t *testing.T) {
	r := rand.New(rand.NewSource(4))
	for range 3000 {
		expectShares(t, someBalanced(r, between(r, 1, 8), between(r, 0, 30), []int{1, 3, 33}[r.Intn(3)]))
	}
}

// O2, for tables that many permutations are needed for: the number of them comes
// close to the greatest one.
func TestManyShares(t *testing.T) {
	r := rand.New(rand.NewSource(5))
	for n := 3; n <= api.MaxShop; n++ {
		greatest := 0
		for range 200 {
			greatest = max(greatest, len(expectShares(t, someBalanced(r, n, 60, 15))))
		}
		if greatest < mostShares(n)-n {
			t.Errorf("of %d jobs there are at most %d permutations", n, greatest)
		}
	}
}

func TestTablesWithoutShares(t *testing.T) {
	for _, text := range []string{"1 2", "1, 2", "1 0 0, 0 1 0", "1 0, 0 1, 0 0", "1 1", "0 0", "0, 0", "2 1, 1 1", "2 1, 2 1", "2 2, 1 1", "1 0, 0 2", "1 1 1, 1 1 1, 1 1 0", "1 0 0, 0 1 0, 1 0 0", "0 0, 0 1", "1001", "-1", "1001 0, 0 1001", "-1 2, 2 -1"} {
		expectNoShares(t, times(text))
	}
	for _, table := range []grid{nil, {}, {nil}, {{1, 1}, {1}}, {{1}, {1, 1}}, filled(9, 9, 1), filled(9, 9, 0), filled(8, 9, 1), filled(9, 8, 1)} {
		expectNoShares(t, table)
	}
	r := rand.New(rand.NewSource(6))
	for range 300 {
		n := between(r, 2, 8)
		table := someBalanced(r, n, 9, 9)
		table[r.Intn(n)][r.Intn(n)]++
		expectNoShares(t, table)
	}
}

func TestMakes(t *testing.T) {
	table := times("2 1, 1 2")
	expectMakes(t, table, permutations("2 0 1, 1 1 0"), true)
	expectMakes(t, table, permutations("1 1 0, 2 0 1"), true)
	for _, text := range []string{
		"", "2 0 1", "2 0 1, 2 1 0", "1 0 1, 1 1 0", "3 0 1", "2 1 0, 1 0 1",
		// Too many: there may be two.
		"1 0 1, 1 0 1, 1 1 0",
		"2 0 1, 0 1 0",
		// No permutations.
		"2 0 0, 1 1 1", "2 0 1, 1 1 1", "2 0 1, 1 1", "2 0 1, 1", "2 0 1 2, 1 1 0 2", "2 0 1, 1 1 2", "2 0 1, 1 1 -1", "2 0 1, 1 -1 -1", "2 0 1, 1 2 0",
	} {
		expectMakes(t, table, permutations(text), false)
	}
	for _, machine := range odd() {
		expectMakes(t, table, append(permutations("2 0 1"), share{Count: 1, To: []int{1, machine}}), false)
		if machine < 1 {
			expectMakes(t, times("0"), []share{{Count: machine, To: []int{0}}}, false)
		}
	}
	// Counts below 1, though the sums are right, and there may be five.
	three := times("3 0 0, 0 3 0, 0 0 3")
	expectMakes(t, three, permutations("3 0 1 2"), true)
	expectMakes(t, three, permutations("1 0 1 2, 1 0 1 2, 1 0 1 2"), true)
	expectMakes(t, three, permutations("3 0 1 2, 0 0 1 2"), false)
	expectMakes(t, three, permutations("0 1 2 0, 3 0 1 2"), false)
	expectMakes(t, three, permutations("4 0 1 2, -1 0 1 2"), false)
	expectMakes(t, three, permutations("3 0 1 2, 1 1 2 0, -1 1 2 0"), false)
	expectMakes(t, filled(3, 3, 0), permutations("0 0 1 2"), false)
	expectMakes(t, filled(3, 3, 0), nil, true)
	expectMakes(t, filled(3, 3, 0), []share{}, true)
	expectMakes(t, filled(3, 3, 0), permutations("1 0 1 2"), false)
	// To is the machine of each job, not the job of each machine.
	expectMakes(t, times("0 1 0, 0 0 1, 1 0 0"), permutations("1 1 2 0"), true)
	expectMakes(t, times("0 1 0, 0 0 1, 1 0 0"), permutations("1 2 0 1"), false)
}

// The number of permutations counts: at most n·n - 2·n + 2.
func TestSharesThatAreTooMany(t *testing.T) {
	expectMakes(t, times("2"), permutations("2 0"), true)
	expectMakes(t, times("2"), permutations("1 0, 1 0"), false)
	for n := 1; n <= api.MaxShop; n++ {
		most := mostShares(n)
		table := filled(n, n, 0)
		var shares []share
		for i := range most {
			s := share{Count: 1}
			for job := range n {
				s.To = append(s.To, (job+i)%n)
				table[job][(job+i)%n]++
			}
			shares = append(shares, s)
		}
		expectMakes(t, table, shares, true)
		for job, machine := range shares[0].To {
			table[job][machine]++
		}
		expectMakes(t, table, append(shares, shares[0]), false)
		shares[0].Count++
		expectMakes(t, table, shares, true)
	}
}

// R7: sums of counts do not overflow.
func TestGreatCounts(t *testing.T) {
	const most = 1<<63 - 1
	same := func(count int) share { return share{Count: count, To: []int{0, 1, 2}} }
	three := times("3 0 0, 0 3 0, 0 0 3")
	expectMakes(t, three, []share{same(3)}, true)
	expectMakes(t, three, []share{same(most), same(most), same(5)}, false)
	expectMakes(t, three, []share{same(1 << 62), same(1 << 62), same(1 << 62), same(1 << 62), same(3)}, false)
	expectMakes(t, three, []share{same(1<<32 + 3)}, false)
	expectMakes(t, filled(3, 3, 0), []share{same(most), same(most), same(2)}, false)
}
