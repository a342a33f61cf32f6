package limit

// pack is a package of the package-merge algorithm: how much it weighs, and what is in it.
type pack[T any] struct {
	weight  int
	content T
}

// merge returns two lists of packages, both in order of weight, as one in that order.
func merge[T any](a, b []pack[T]) []pack[T] {
	all := make([]pack[T], 0, len(a)+len(b))
	for len(a) > 0 && len(b) > 0 {
		if a[0].weight <= b[0].weight {
			all, a = append(all, a[0]), a[1:]
		} else {
			all, b = append(all, b[0]), b[1:]
		}
	}
	return append(append(all, a...), b...)
}

// pairs returns the packages that combine makes of each two neighbours in a list. Without a neighbour, the heaviest one is left out.
func pairs[T any](list []pack[T], combine func(a, b T) T) []pack[T] {
	made := make([]pack[T], 0, len(list)/2)
	for ; len(list) >= 2; list = list[2:] {
		a, b := list[0], list[1]
		made = append(made, pack[T]{a.weight + b.weight, combine(a.content, b.content)})
	}
	return made
}
