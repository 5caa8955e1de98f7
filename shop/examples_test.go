package shop_test

import (
	"testing"

	"cracknel/api"
	"cracknel/shop"
)

// The examples of chapter 8, and example 8 of the document.
func TestExamples(t *testing.T) {
	table := times("2 1, 1 2")
	expectBound(t, table, 3, 0, 0)
	if p := expectSchedule(t, table); len(p) != 2 {
		t.Errorf("Plan: %v", p)
	}
	if shares := expectShares(t, table); len(shares) != 2 {
		t.Errorf("Shares: %v", shares)
	}
	expectDoes(t, table, shifts("2 0 1, 1 1 0"), "3")
	expectMakes(t, table, permutations("2 0 1, 1 1 0"), true)
	two, release, due := times("1, 1"), ints("0 0"), ints("1 1")
	p, e := shop.Windows(two, release, due)
	expectError(t, "Windows", p, e, api.ErrNone)
	y, e := shop.Refuse(two, release, due)
	expectProof(t, two, release, due, y, e)
	expectProof(t, two, release, due, nums{"1", "1", "0", "0", "-1"}, api.OK)
}
