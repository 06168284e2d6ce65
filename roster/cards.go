package roster

import (
	"sort"

	"phratry/api"
	"phratry/may"
)

// mayBe: may cards be?
func mayBe(l []api.Card) bool {
	for i, c := range l {
		if i > 0 && l[i-1].User >= c.User || !may.User(c.User) || c.Epoch < 0 || c.Pub <= 0 {
			return false
		}
	}
	return true
}

// find is the place where the card of a user stands, or would stand. The cards may be: so their Users rise.
func find(l []api.Card, user int) (at int, there bool) {
	at = sort.Search(len(l), func(i int) bool { return l[i].User >= user })
	return at, at < len(l) && l[at].User == user
}
