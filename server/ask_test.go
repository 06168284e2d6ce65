package server_test

import (
	"math"
	"slices"
	"testing"

	"phratry/api"
)

// TestP202Open: a device without a box opens its account, if nobody has.
func TestP202Open(t *testing.T) {
	for _, device := range []int{0, 7, 8, 17, 31, 32, 504, 511} {
		user := device / 8
		c := commit(-1-user, 0, device)
		s := ask(t, newServer(user%4), device, opens(c))
		want := api.Server{Number: user % 4, Logs: []api.Log{log(c)}, Boxes: []api.Box{box(device, 1, commitMail(c))}, Cards: []api.Card{cardOf(c)}}
		same(t, "opened", s, want)
	}
	s := home()
	c := commit(-10, 0, 72)
	same(t, "one more", ask(t, s, 72, opens(c)), carded(logged(boxed(s, box(72, 1, commitMail(c))), c), c))
	same(t, "any Seq", ask(t, s, 72, number(9, opens(c))), carded(logged(boxed(s, box(72, 1, commitMail(c))), c), c))

	// The boxes are those of all who are in the tree, and that of the device that asks.
	c = commit(-10, 0, 76, 73)
	want := boxed(boxed(boxed(s, box(72, 1)), box(73, 0, commitMail(c))), box(76, 0, commitMail(c)))
	same(t, "of others", ask(t, s, 72, opens(c)), carded(logged(want, c), c))

	// A box of another device may be there ahead of the log.
	s = boxed(boxed(s, out(box(73, 6))), box(74, 2))
	c = commit(-10, 0, 72, 73, 74)
	want = posted(boxed(s, box(72, 1, commitMail(c))), commitMail(c), 74)
	same(t, "boxes", ask(t, s, 72, opens(c)), carded(logged(want, c), c))
}

// TestP202OpenNot: who has a box, or whose account has a log, opens nothing.
func TestP202OpenNot(t *testing.T) {
	s := home()
	same(t, "a log is there", ask(t, s, 11, opens(commit(-2, 0, 11))), s)
	same(t, "a log is there, any Seq", ask(t, s, 11, number(most, opens(commit(-2, 0, 11)))), s)
	same(t, "a box is there", ask(t, s, 8, number(3, opens(commit(-2, 0, 8)))), done(s, 8))
	same(t, "a box is there, done before", ask(t, s, 8, number(2, opens(commit(-2, 0, 8)))), s)
	same(t, "a box is Out", ask(t, s, 10, number(4, opens(commit(-2, 0, 10)))), done(s, 10))
	s = boxed(s, box(72, 0))
	same(t, "a box is there, and no log", ask(t, s, 72, opens(commit(-10, 0, 72))), done(s, 72))

	// There is no room for its log: it is told so.
	s = newServer(1)
	for user := 14; user >= 0; user-- {
		s.Logs = append(s.Logs, log(commit(-2-4*user, 0, 8*(4*user+1))))
	}
	c := commit(-62, 0, 488)
	same(t, "the last one", ask(t, s, 488, opens(c)), carded(logged(boxed(s, box(488, 1, commitMail(c))), c), c))
	s = logged(s, commit(1, 0, 1))
	same(t, "above MaxGroups", ask(t, s, 488, opens(c)), boxed(s, box(488, 1, noMail(-62, 0))))
}

// TestP202Count: each request that was not done before is counted, whatever comes of it.
func TestP202Count(t *testing.T) {
	s := home() // 3 requests of 8 are done
	all := []api.Request{opens(commit(-2, 0, 8)), commits(commit(-2, 2, 8)), commits(commit(0, 0, 1)), asks(1), asks(0), faces(1), faces(0), notes(note(1, 1)), notes(note(0, 0))}
	for _, r := range all {
		for _, seq := range []int{0, 1, 2} {
			same(t, "done before", ask(t, s, 8, number(seq, r)), s)
		}
		same(t, "Out", ask(t, s, 10, number(4, r)), done(s, 10))
		same(t, "Out, done before", ask(t, s, 10, number(3, r)), s)
		same(t, "Out, ahead", ask(t, s, 10, number(9, r)), done(s, 10))
		next := ask(t, s, 8, number(3, r))
		if next.Boxes[0].Done != 4 {
			t.Error(r.Kind, next.Boxes[0].Done)
		}
		// A request that was left out is not waited for.
		for _, seq := range []int{4, 100, most, math.MaxInt} {
			same(t, "ahead", ask(t, s, 8, number(seq, r)), next)
		}
		same(t, "once more", ask(t, next, 8, number(3, r)), next)
	}
	for _, r := range all[1:] {
		same(t, "no box", ask(t, s, 11, r), s)
		same(t, "no box", ask(t, newServer(1), 11, r), newServer(1))
		same(t, "no box, any Seq", ask(t, s, 488, number(5, r)).Boxes, s.Boxes)
	}
}

// TestP202Most: a box counts up to 2^40.
func TestP202Most(t *testing.T) {
	s := home()
	s.Boxes[0].Done, s.Boxes[2].Done = most, most
	for _, r := range []api.Request{opens(commit(-2, 0, 8)), commits(commit(-2, 2, 8)), asks(1), faces(1), notes(note(1, 1)), asks(0)} {
		for _, device := range []int{8, 10} {
			same(t, "done before", ask(t, s, device, number(most-1, r)), s)
			if r.Kind == api.RqOpen {
				r.Commit.Next = grown(device)
			}
			unasked(t, "all are done", s, device, number(most, r), api.ErrLimit)
			unasked(t, "all are done", s, device, number(math.MaxInt, r), api.ErrLimit)
		}
	}
	unasked(t, "may not be either", s, 8, number(most, asks(64)), api.ErrArg)
	s.Boxes[0].Done = most - 1
	same(t, "the last one", ask(t, s, 8, number(most, asks(9))), done(s, 8))
}

// TestP202Account: a commit of the account goes to all who are in it, or were.
func TestP202Account(t *testing.T) {
	s := home() // the account -2 is at the epoch 1: 8, 9
	asked := func(c api.Commit) api.Server {
		t.Helper()
		return ask(t, s, 9, number(5, commits(c)))
	}
	c := commit(-2, 2, 8, 9)
	same(t, "nobody", asked(c), carded(logged(posted(done(s, 9), commitMail(c), 8, 9), c), c))
	c = commit(-2, 2, 15, 8, 9)
	want := boxed(posted(done(s, 9), commitMail(c), 8, 9), box(15, 0, commitMail(c)))
	same(t, "one comes", asked(c), carded(logged(want, c), c))
	c = commit(-2, 2, 9)
	same(t, "one goes", asked(c), carded(logged(shut(posted(done(s, 9), commitMail(c), 8, 9), 8), c), c))
	c = commit(-2, 2, 11, 12)
	want = boxed(boxed(posted(done(s, 9), commitMail(c), 8, 9), box(11, 0, commitMail(c))), box(12, 0, commitMail(c)))
	same(t, "all go", asked(c), carded(logged(shut(shut(want, 8), 9), c), c))

	// Who is Out gets nothing, and stays so, also when it is in a tree again.
	c = commit(-2, 2, 8, 10)
	same(t, "Out", asked(c), carded(logged(shut(posted(done(s, 9), commitMail(c), 8, 9), 9), c), c))

	// A box that was not there is made for one who goes, too.
	s.Boxes = s.Boxes[1:]
	c = commit(-2, 2, 9)
	want = boxed(posted(done(s, 9), commitMail(c), 9), out(box(8, 0, commitMail(c))))
	same(t, "no box", asked(c), carded(logged(want, c), c))

	// The first commit of an account need not be an RqOpen.
	s = boxed(home(), box(72, 0))
	c = commit(-10, 0, 72)
	same(t, "the first one", ask(t, s, 72, commits(c)), carded(logged(posted(done(s, 72), commitMail(c), 72), c), c))
	// Nor one's own account's.
	c = commit(-10, 0, 73)
	want = boxed(done(s, 8), box(73, 0, commitMail(c)))
	same(t, "another's", ask(t, s, 8, number(3, commits(c))), carded(logged(want, c), c))
	// Whose user is at home elsewhere, its commit is told to there.
	c = commit(-1, 4, 0)
	same(t, "far", ask(t, s, 8, number(3, commits(c))), tells(done(s, 8), 0, toldCommit(8, c)))
}

// TestP202Card: an account's commit gives its user a card; that is of the commit's Epoch and Card, not of its Face or KeyEpoch.
func TestP202Card(t *testing.T) {
	s := home()
	for epoch := 2; epoch < 5; epoch++ {
		c := commit(-2, epoch, 8)
		c.Card, c.KeyEpoch = 1000-epoch, 50
		s = ask(t, s, 8, number(9+epoch, commits(c)))
		same(t, "cards", s.Cards, []api.Card{{User: 1, Epoch: epoch, Pub: 1000 - epoch}, {User: 5, Pub: 200}})
	}
	c := commit(1, 2, 1, 5)
	s = ask(t, s, 8, number(99, commits(c)))
	same(t, "a conversation's", s.Cards, []api.Card{{User: 1, Epoch: 4, Pub: 996}, {User: 5, Pub: 200}})
}

// TestP202Conversation: a commit of a conversation goes to all users who are in it, or were, rising; to those of other homes by these.
func TestP202Conversation(t *testing.T) {
	s := home() // the conversation 1 is at the epoch 1: 1, 5, 2, 0, 6
	c := commit(1, 2, 1)
	want := posted(done(s, 8), commitMail(c), 8, 9, 40)
	want = tells(tells(tells(want, 0, toldUser(0, commitMail(c))), 2, toldUser(2, commitMail(c))), 2, toldUser(6, commitMail(c)))
	same(t, "all go", ask(t, s, 8, number(3, commits(c))), logged(want, c))
	c = commit(1, 2, 63, 6, 1, 5, 2, 0)
	want = posted(done(s, 8), commitMail(c), 8, 9, 40)
	want = tells(tells(tells(want, 0, toldUser(0, commitMail(c))), 2, toldUser(2, commitMail(c))), 2, toldUser(6, commitMail(c)))
	want = tells(want, 3, toldUser(63, commitMail(c)))
	same(t, "one comes", ask(t, s, 8, number(3, commits(c))), logged(want, c))

	// The first one of a conversation; its members need not have boxes.
	c = commit(9, 0, 13, 5)
	same(t, "the first one", ask(t, s, 8, number(3, commits(c))), logged(posted(done(s, 8), commitMail(c), 40), c))
	// Card is not looked at.
	c.Card = 0
	same(t, "no card", ask(t, s, 8, number(3, commits(c))), logged(posted(done(s, 8), commitMail(c), 40), c))
	// Who sends it need not be in it.
	c = commit(5, 1, 9)
	same(t, "not in", ask(t, s, 40, number(7, commits(c))), logged(tells(done(s, 40), 0, toldUser(4, commitMail(c))), c))
	// Of a conversation of another home, it is told to that, whatever its epoch.
	for _, g := range []int{0, 2, 3, 4, 63} {
		c = commit(g, 7, 1)
		same(t, "far", ask(t, s, 8, number(3, commits(c))), tells(done(s, 8), g%4, toldCommit(8, c)))
	}
}

// TestP202No: of an epoch that is there, or not yet to be, the device that sent it is told no.
func TestP202No(t *testing.T) {
	s := home()
	for _, c := range []api.Commit{commit(-2, 0, 8), commit(-2, 1, 8, 9), commit(-2, 3, 8), commit(1, 0, 1), commit(1, 1, 1), commit(1, 3, 1), commit(9, 1, 1), commit(-10, 1, 72), commit(1, math.MaxInt, 1)} {
		same(t, "no", ask(t, s, 9, commits(c)), posted(done(s, 9), noMail(c.Group, c.Epoch), 9))
	}
	full := s
	for g := 9; len(full.Logs) < 16; g += 4 {
		full = logged(full, commit(g, 0, 0))
	}
	for _, c := range []api.Commit{commit(61, 0, 1), commit(-62, 0, 488)} {
		same(t, "above MaxGroups", ask(t, full, 9, commits(c)), posted(done(full, 9), noMail(c.Group, 0), 9))
	}
	c := commit(5, 1, 1)
	same(t, "a log that is there", ask(t, full, 9, commits(c)), logged(tells(posted(done(full, 9), commitMail(c), 8, 9), 0, toldUser(4, commitMail(c))), c))
}

// TestP202Ask: a user's card comes from its home.
func TestP202Ask(t *testing.T) {
	s := home()
	same(t, "one's own", ask(t, s, 8, number(3, asks(1))), posted(done(s, 8), cardMail(s.Cards[0]), 8))
	same(t, "another's", ask(t, s, 9, asks(5)), posted(done(s, 9), cardMail(s.Cards[1]), 9))
	for _, user := range []int{9, 13, 61} {
		same(t, "no card", ask(t, s, 9, asks(user)), done(s, 9))
	}
	for _, user := range []int{0, 2, 3, 4, 60, 62, 63} {
		same(t, "far", ask(t, s, 9, asks(user)), tells(done(s, 9), user%4, toldAsk(user, 9)))
	}
}

// TestP202Face: a group's face is that of its last epoch.
func TestP202Face(t *testing.T) {
	s := home()
	for _, l := range s.Logs {
		last := l.Commits[len(l.Commits)-1]
		same(t, "Face", ask(t, s, 9, faces(l.Group)), posted(done(s, 9), faceMail(last), 9))
	}
	for _, group := range []int{9, 61, -10, -62} {
		same(t, "no log", ask(t, s, 9, faces(group)), done(s, 9))
	}
	for _, group := range []int{0, 2, 3, 4, 60, 62, 63} {
		same(t, "far", ask(t, s, 9, faces(group)), tells(done(s, 9), group%4, toldFace(group, 9)))
		same(t, "far", ask(t, s, 9, faces(-1-group)), tells(done(s, 9), group%4, toldFace(-1-group, 9)))
	}
}

// TestP202Note: a note goes to all who are in its group at the last epoch, if its sender is one.
func TestP202Note(t *testing.T) {
	s := home()
	n := note(1, 1)
	want := posted(done(s, 8), noteMail(n), 8, 9, 40)
	want = tells(tells(tells(want, 0, toldUser(0, noteMail(n))), 2, toldUser(2, noteMail(n))), 2, toldUser(6, noteMail(n)))
	same(t, "a conversation's", ask(t, s, 8, number(3, notes(n))), want)
	n = note(-2, 1)
	same(t, "an account's", ask(t, s, 8, number(3, notes(n))), posted(done(s, 8), noteMail(n), 8, 9))
	n = note(-6, 0)
	same(t, "of one device", ask(t, s, 40, number(7, notes(n))), posted(done(s, 40), noteMail(n), 40))

	// A note of another epoch, of no group, or of one that is not in, goes to nobody.
	for _, x := range []struct {
		device int
		n      api.Note
	}{
		{8, note(1, 0)}, {8, note(1, 2)}, {8, note(1, -1)}, {8, note(-2, 0)}, {8, note(-2, 2)}, {8, note(9, 0)}, {8, note(-10, 0)},
		{8, note(5, 0)}, {8, note(-6, 0)}, {40, note(-2, 1)}, {40, note(5, 0)},
	} {
		same(t, "not taken", ask(t, s, x.device, number(9, notes(x.n))), done(s, x.device))
	}
	// In an account the device itself must be in: another one of its user is not enough; in a conversation it is.
	s = boxed(s, box(15, 0))
	same(t, "not in the account", ask(t, s, 15, notes(note(-2, 1))), done(s, 15))
	n = note(1, 1)
	same(t, "of the user", ask(t, s, 15, notes(n)).Boxes, posted(done(s, 15), noteMail(n), 8, 9, 15, 40).Boxes)
	// Whoever it says it is by is not looked at.
	n.By = 8
	same(t, "By", ask(t, boxed(s, box(72, 0)), 72, notes(n)), done(boxed(s, box(72, 0)), 72))
	for _, g := range []int{0, 2, 7, 63} {
		n = note(g, 5)
		same(t, "far", ask(t, s, 8, number(3, notes(n))), tells(done(s, 8), g%4, toldNote(n, 8)))
		n = note(-1-g, -5)
		same(t, "far", ask(t, s, 8, number(3, notes(n))), tells(done(s, 8), g%4, toldNote(n, 8)))
	}
}

// TestP202Blank: a member that went leaves a blank leaf, and is no member.
func TestP202Blank(t *testing.T) {
	s := home()
	c := commit(-2, 2, 8, 9)
	c.Next = without(c.Next, 8)
	s = ask(t, s, 9, commits(c))
	if !s.Boxes[0].Out {
		t.Error("8 is in")
	}
	n := note(-2, 2)
	same(t, "the last one", ask(t, s, 9, number(1, notes(n))), posted(done(s, 9), noteMail(n), 9))
}

// TestP202Arg: devices and requests that may not be.
func TestP202Arg(t *testing.T) {
	s := home()
	for _, device := range []int{-1, 512, 520, 0, 7, 16, 39, 48, 511, -8, math.MinInt, math.MaxInt} {
		unasked(t, "device", s, device, asks(1), api.ErrArg)
		unasked(t, "device", s, device, opens(commit(-2, 0, 8)), api.ErrArg)
	}
	for _, device := range []int{8, 10, 11} {
		for i, r := range badRequests() {
			r.Seq = []int{0, 3, 9}[i%3]
			unasked(t, "request", s, device, r, api.ErrArg)
		}
		for _, r := range []api.Request{opens(commit(-2, 0, 8)), commits(commit(-2, 2, 8)), asks(1), faces(1), notes(note(1, 1))} {
			for _, seq := range []int{-1, math.MinInt} {
				unasked(t, "Seq", s, device, number(seq, r), api.ErrArg)
			}
		}
	}
}

// badRequests are some that may not be, of a device of the user 1.
func badRequests() (l []api.Request) {
	for _, kind := range []api.RequestKind{0, 6, 7, 255} {
		l = append(l, api.Request{Kind: kind, Commit: commit(-2, 0, 8), N: 1, Note: note(1, 1)})
	}
	for _, n := range []int{-1, 64, math.MinInt, math.MaxInt} {
		l = append(l, asks(n))
	}
	for _, g := range []int{-65, 64, math.MinInt, math.MaxInt} {
		l = append(l, faces(g), notes(note(g, 0)))
	}
	for _, c := range badCommits() {
		l = append(l, commits(c), opens(c))
	}
	// What may be committed is not always what an account is opened with.
	return append(l, opens(commit(-2, 1, 8)), opens(commit(-6, 0, 40)), opens(commit(-1, 0, 0)), opens(commit(1, 0, 1)), opens(commit(2, 0, 1)))
}

// badCommits are some that may not be decided.
func badCommits() []api.Commit {
	l := []api.Commit{
		{}, commit(64, 0, 1), commit(-65, 0, 512), commit(math.MinInt, 0, 8), commit(math.MaxInt, 0, 8),
		commit(-2, -1, 8), commit(1, -1, 1), commit(1, math.MinInt, 1), commit(-2, 0), commit(1, 0),
		commit(-2, 0, 7), commit(-2, 0, 16), commit(-2, 0, 8, 16), commit(-2, 0, 1), commit(-1, 0, 8), commit(1, 0, 64), commit(1, 0, 1, 100), commit(-64, 0, 512),
	}
	for _, t := range []api.Tree{
		{Nodes: make([]api.Node, 1)}, {Nodes: make([]api.Node, 2)}, {Nodes: []api.Node{{Pub: -1, Member: 8}}}, {Nodes: []api.Node{{Pub: 1, Member: -8}}},
		{Nodes: []api.Node{{Pub: 1, Member: 8}, {}, {Pub: 1, Member: 8}}}, {Nodes: []api.Node{{Pub: 1, Member: 8}, {Pub: 1, Unmerged: []int{9}}, {Pub: 1, Member: 9}}},
	} {
		c := commit(-2, 0, 8)
		c.Next = t
		l = append(l, c)
	}
	for _, card := range []int{0, -1, math.MinInt} {
		c := commit(-2, 0, 8)
		c.Card = card
		l = append(l, c)
	}
	return l
}

// full is a server whose link to a peer has no room.
func full(s api.Server, peer int) api.Server {
	return linked(s, peer, func(l *api.Link) {
		l.Queue = slices.Repeat([]api.Feed{toldAsk(peer, 8)}, pending)
		l.Next = pending + 3
	})
}

// TestP202Limit: what would have to be told to a server whose link has no room is not done at all.
func TestP202Limit(t *testing.T) {
	s := full(home(), 2)
	for _, r := range []api.Request{asks(2), faces(2), faces(-3), notes(note(2, 0)), commits(commit(2, 0, 1)), notes(note(1, 1)), commits(commit(1, 2, 1))} {
		unasked(t, "no room", s, 8, number(3, r), api.ErrLimit)
		same(t, "done before", ask(t, s, 8, number(2, r)), s)
		same(t, "Out", ask(t, s, 10, number(4, r)), done(s, 10))
		same(t, "no box", ask(t, s, 11, r), s)
	}
	for _, r := range []api.Request{asks(0), faces(3), notes(note(0, 0)), commits(commit(3, 0, 1)), commits(commit(5, 1, 1, 0))} {
		if next := ask(t, s, 8, number(3, r)); len(next.Links) != 3 {
			t.Error(r, next.Links)
		}
	}
	// There is room for one, not for two.
	s = home()
	s = linked(full(s, 2), 2, func(l *api.Link) { l.Queue = l.Queue[1:] })
	same(t, "room for one", ask(t, s, 8, number(3, asks(2))), tells(done(s, 8), 2, toldAsk(2, 8)))
	unasked(t, "room for one", s, 8, number(3, notes(note(1, 1))), api.ErrLimit)
	unasked(t, "room for one", s, 8, number(3, commits(commit(1, 2, 1))), api.ErrLimit)
	s = linked(s, 2, func(l *api.Link) { l.Queue = l.Queue[1:] })
	if next := ask(t, s, 8, number(3, notes(note(1, 1)))); len(of(next, 2).Queue) != pending {
		t.Error("room for two")
	}
	// No number is left.
	s = linked(home(), 2, func(l *api.Link) { l.Next = most })
	unasked(t, "no number", s, 8, number(3, asks(2)), api.ErrLimit)
	s = linked(home(), 2, func(l *api.Link) { l.Next = most - 1 })
	if next := ask(t, s, 8, number(3, asks(2))); of(next, 2).Next != most {
		t.Error("the last number")
	}
}
