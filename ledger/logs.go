package ledger

import (
	"sort"

	"phratry/api"
	"phratry/tree"
)

// mayBe: may logs be?
func mayBe(l []api.Log) bool {
	if len(l) > api.MaxGroups {
		return false
	}
	for i, log := range l {
		if i > 0 && l[i-1].Group >= log.Group || !mayBeOne(log) {
			return false
		}
	}
	return true
}

// mayBeOne: has a log commits, one for each epoch from 0 on?
func mayBeOne(log api.Log) bool {
	for k, c := range log.Commits {
		if c.Group != log.Group || c.Epoch != k || !mayBeTaken(c) {
			return false
		}
	}
	return len(log.Commits) > 0
}

// mayBeTaken: may a commit be taken, whatever the logs have?
func mayBeTaken(c api.Commit) bool {
	return c.Epoch >= 0 && len(c.Next.Nodes) > 0 && tree.Check(c.Next) == api.OK
}

// find is the place where the log of a group stands, or would stand, and its commits as they were handed in: none, if
// there is no such log. The logs may be: so their Groups rise, and no log is empty.
func find(l []api.Log, group int) (at int, log []api.Commit) {
	at = sort.Search(len(l), func(i int) bool { return l[i].Group >= group })
	if at == len(l) || l[at].Group != group {
		return at, nil
	}
	return at, l[at].Commits
}

// commits is the log of a group as it was handed in: none, too, of logs that may not be.
func commits(l []api.Log, group int) []api.Commit {
	if !mayBe(l) {
		return nil
	}
	_, log := find(l, group)
	return log
}

func has(log []api.Commit, epoch int) bool {
	return epoch >= 0 && epoch < len(log)
}
