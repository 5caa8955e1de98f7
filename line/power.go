package line

// A factor is what can be multiplied by others of its type.
type factor[T any] interface {
	times(T) T
}

// power returns the product of n factors x; n is 1 or more.
func power[T factor[T]](x T, n int) T {
	if n == 1 {
		return x
	}
	half := power(x, n/2)
	out := half.times(half)
	if n%2 == 1 {
		out = out.times(x)
	}
	return out
}
