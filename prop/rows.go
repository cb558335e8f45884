package prop

// row is a list of what belongs to stones, or of what one is chosen from.
type row[T any] []T

// sum returns the sum of a number of each element.
func (r row[T]) sum(number func(T) int) int {
	sum := 0
	for _, element := range r {
		sum += number(element)
	}
	return sum
}

// first returns the first element before which no other one comes.
func (r row[T]) first(comesBefore func(a, b T) bool) T {
	found := r[0]
	for _, element := range r[1:] {
		if comesBefore(element, found) {
			found = element
		}
	}
	return found
}

// weighed is a stone of known weight.
type weighed struct {
	Stone
	weight int
}

// weigh gives the stones of a pile their weights.
func weigh(pile []Stone, weights []int) row[weighed] {
	stones := make(row[weighed], len(pile))
	for i, stone := range pile {
		stones[i] = weighed{stone, weights[i]}
	}
	return stones
}

func weightOf(stones row[weighed]) int {
	return stones.sum(func(s weighed) int { return s.weight })
}

// centre returns the centre of stones.
func centre(stones row[weighed]) Frac {
	moment := stones.sum(func(s weighed) int { return s.weight * s.At })
	return fraction(moment, weightOf(stones))
}
