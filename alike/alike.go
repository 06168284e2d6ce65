// Package alike tells whether two things are the same in all their fields; of lists empty and nil are the same.
package alike

import (
	"slices"

	"phratry/api"
)

func Node(a, b api.Node) bool {
	return a.Pub == b.Pub && a.Member == b.Member && a.Epoch == b.Epoch && slices.Equal(a.Unmerged, b.Unmerged)
}

func Tree(a, b api.Tree) bool {
	return slices.EqualFunc(a.Nodes, b.Nodes, Node)
}

func Commit(a, b api.Commit) bool {
	return a.Group == b.Group && a.Epoch == b.Epoch && a.By == b.By && a.Member == b.Member && a.KeyEpoch == b.KeyEpoch &&
		a.External == b.External && slices.Equal(a.Adds, b.Adds) && slices.Equal(a.Removes, b.Removes) &&
		slices.Equal(a.Seals, b.Seals) && slices.Equal(a.Joins, b.Joins) && a.Own == b.Own && a.Entry == b.Entry &&
		Tree(a.Next, b.Next) && a.Face == b.Face && a.Card == b.Card
}
