package homfly

import (
	"knotwork/api"
	"knotwork/terms"
)

// rings: what so many of them are worth, which lie apart. The first one is worth 1.
func rings(count int) terms.Pairs {
	all := terms.Pairs{{}: 1}
	for range count - 1 {
		all = all.Times(terms.Pairs{{X: 1, Z: -1}: 1, {X: -1, Z: -1}: -1})
	}
	return all
}

// product of two terms.
func product(a, b api.Term2) api.Term2 {
	return api.Term2{X: a.X + b.X, Z: a.Z + b.Z, Coef: a.Coef * b.Coef}
}
