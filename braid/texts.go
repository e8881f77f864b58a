package braid

// act: what one letter makes of the texts at its places.
func act(texts [][]int, letter int) {
	i := size(letter)
	a, b := texts[i-1], texts[i]
	if letter > 0 {
		texts[i-1], texts[i] = product(a, b, reciprocal(a)), a
	} else {
		texts[i-1], texts[i] = b, product(reciprocal(b), a, b)
	}
}

// product of texts, without neighbours that are reciprocals.
func product(texts ...[]int) []int {
	var all []int
	for _, text := range texts {
		for _, x := range text {
			if last := len(all) - 1; last >= 0 && all[last] == -x {
				all = all[:last]
			} else {
				all = append(all, x)
			}
		}
	}
	return all
}

// reciprocal of a text.
func reciprocal(text []int) []int {
	other := make([]int, len(text))
	for i, x := range text {
		other[len(text)-1-i] = -x
	}
	return other
}
