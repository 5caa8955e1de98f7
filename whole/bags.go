package whole

import (
	"slices"

	"cracknel/api"
)

// never is more than all totals and numbers of bags that occur.
const never = 1 << 40

func areSizes(sizes []int) bool {
	isWrong := func(size int) bool { return size < 1 || size > api.MaxSize }
	return 1 <= len(sizes) && len(sizes) <= api.MaxSizes && !slices.ContainsFunc(sizes, isWrong)
}

// Bags returns the counts of sizes that make a total with the fewest bags, of
// several the lexicographically least ones.
func Bags(sizes []int, total int) ([]int, api.Errno) {
	if !areSizes(sizes) || total < 0 || total > api.MaxTotal {
		return nil, api.ErrArg
	}
	fewest := slices.Repeat([]int{never}, total+1)
	fewest[0] = 0
	isNeeded := make([][]bool, len(sizes))
	for i, size := range slices.Backward(sizes) {
		isNeeded[i] = admit(fewest, size)
	}
	if fewest[total] >= never {
		return nil, api.ErrNone
	}
	counts := make([]int, len(sizes))
	for i, size := range sizes {
		for isNeeded[i][total] {
			total -= size
			counts[i]++
		}
	}
	return counts, api.OK
}

// admit lowers the fewest bags of all totals by one more size, and returns for
// which totals it is needed.
func admit(fewest []int, size int) []bool {
	isNeeded := make([]bool, len(fewest))
	for total := size; total < len(fewest); total++ {
		if count := fewest[total-size] + 1; count < fewest[total] {
			fewest[total], isNeeded[total] = count, true
		}
	}
	return isNeeded
}

// Apery returns for each remainder by the least size the least total with it
// that can be made.
func Apery(sizes []int) ([]int, api.Errno) {
	if !areSizes(sizes) {
		return nil, api.ErrArg
	}
	common := 0
	for _, size := range sizes {
		common = divisor(common, size)
	}
	if common > 1 {
		return nil, api.ErrNone
	}
	least := slices.Min(sizes)
	totals := slices.Repeat([]int{never}, least)
	totals[0] = 0
	for _, size := range sizes {
		lower(totals, size)
	}
	return totals, api.OK
}

// lower lowers the least totals of all remainders by one more size. Remainders
// that lead to one another by this size are a cycle; two rounds are enough,
// because the least of their totals stays as it is.
func lower(totals []int, size int) {
	cycles := divisor(size, len(totals))
	for start := range cycles {
		at := start
		for range 2 * len(totals) / cycles {
			next := (at + size) % len(totals)
			totals[next] = min(totals[next], totals[at]+size)
			at = next
		}
	}
}

// Frobenius returns the greatest total that cannot be made, or -1.
func Frobenius(sizes []int) (int, api.Errno) {
	totals, e := Apery(sizes)
	if e != api.OK {
		return 0, e
	}
	return slices.Max(totals) - len(totals), api.OK
}

// divisor returns the greatest common divisor of two numbers, one of which may
// be 0.
func divisor(a, b int) int {
	for b > 0 {
		a, b = b, a%b
	}
	return a
}
