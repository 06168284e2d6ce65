package server_test

import (
	"math"
	"slices"
	"testing"

	"phratry/api"
	"phratry/server"
)

// TestP203Commit: a commit that is told is decided; who sent it is told no, wherever it is at home.
func TestP203Commit(t *testing.T) {
	s := home()
	c := commit(1, 2, 2)
	want := posted(hears(s, 2, 1), commitMail(c), 8, 9, 40)
	want = tells(tells(tells(want, 0, toldUser(0, commitMail(c))), 2, toldUser(2, commitMail(c))), 2, toldUser(6, commitMail(c)))
	same(t, "taken", told(t, s, 2, toldCommit(16, c)), logged(want, c))
	c = commit(-2, 2, 9, 12)
	want = shut(boxed(posted(hears(s, 2, 1), commitMail(c), 8, 9), box(12, 0, commitMail(c))), 8)
	same(t, "an account's", told(t, s, 2, toldCommit(16, c)), carded(logged(want, c), c))
	c = commit(9, 0, 0)
	same(t, "the first one", told(t, s, 0, toldCommit(0, c)), logged(tells(hears(s, 0, 1), 0, toldUser(0, commitMail(c))), c))
	c = commit(-10, 0, 73)
	same(t, "the first one", told(t, s, 0, toldCommit(0, c)), carded(logged(boxed(hears(s, 0, 1), box(73, 0, commitMail(c))), c), c))

	for _, c := range []api.Commit{commit(1, 1, 1), commit(1, 3, 1), commit(-2, 0, 8), commit(9, 1, 1)} {
		m := noMail(c.Group, c.Epoch)
		for _, from := range []int{0, 16, 511} {
			same(t, "no", told(t, s, 2, toldCommit(from, c)), tells(hears(s, 2, 1), from/8%4, toldDevice(from, m)))
		}
		same(t, "no, here", told(t, s, 2, toldCommit(8, c)), posted(hears(s, 2, 1), m, 8))
		same(t, "no, Out", told(t, s, 2, toldCommit(10, c)), hears(s, 2, 1))
		same(t, "no, not there", told(t, s, 2, toldCommit(11, c)), hears(s, 2, 1))
	}
}

// TestP203Mail: mail is put into all boxes of a user, or into one.
func TestP203Mail(t *testing.T) {
	s := boxed(boxed(home(), box(15, 2)), box(14, 0))
	s = shut(s, 14)
	for _, m := range []api.Mail{noMail(1, 2), commitMail(commit(2, 3, 4)), cardMail(api.Card{User: 3}), faceMail(commit(-3, 1, 5)), noteMail(note(900, -900)), {Kind: 77}, {}} {
		same(t, "of a user", told(t, s, 2, toldUser(1, m)), posted(hears(s, 2, 1), m, 8, 9, 15))
		same(t, "of another", told(t, s, 2, toldUser(5, m)), posted(hears(s, 2, 1), m, 40))
		same(t, "of nobody", told(t, s, 2, toldUser(9, m)), hears(s, 2, 1))
		same(t, "of a device", told(t, s, 2, toldDevice(9, m)), posted(hears(s, 2, 1), m, 9))
		for _, device := range []int{10, 14, 11, 493} {
			same(t, "no box, or Out", told(t, s, 2, toldDevice(device, m)), hears(s, 2, 1))
		}
	}
}

// TestP203Ask: a card goes back to the device that asked.
func TestP203Ask(t *testing.T) {
	s := home()
	card := cardMail(s.Cards[1])
	for _, from := range []int{0, 23, 511} {
		same(t, "a card", told(t, s, 2, toldAsk(5, from)), tells(hears(s, 2, 1), from/8%4, toldDevice(from, card)))
		same(t, "no card", told(t, s, 2, toldAsk(9, from)), hears(s, 2, 1))
	}
	same(t, "here", told(t, s, 2, toldAsk(5, 9)), posted(hears(s, 2, 1), card, 9))
	same(t, "here, Out", told(t, s, 2, toldAsk(5, 10)), hears(s, 2, 1))
}

// TestP203Face: so does a face.
func TestP203Face(t *testing.T) {
	s := home()
	for _, l := range s.Logs {
		face := faceMail(l.Commits[len(l.Commits)-1])
		same(t, "a face", told(t, s, 2, toldFace(l.Group, 16)), tells(hears(s, 2, 1), 2, toldDevice(16, face)))
		same(t, "here", told(t, s, 2, toldFace(l.Group, 40)), posted(hears(s, 2, 1), face, 40))
	}
	for _, group := range []int{9, 61, -10, -62} {
		same(t, "no log", told(t, s, 2, toldFace(group, 16)), hears(s, 2, 1))
	}
}

// TestP203Note: a note is taken as if it were asked.
func TestP203Note(t *testing.T) {
	s := home()
	n := note(1, 1)
	want := posted(hears(s, 2, 1), noteMail(n), 8, 9, 40)
	want = tells(tells(tells(want, 0, toldUser(0, noteMail(n))), 2, toldUser(2, noteMail(n))), 2, toldUser(6, noteMail(n)))
	for _, from := range []int{0, 16, 23, 55, 8, 10, 11} {
		same(t, "a conversation's", told(t, s, 2, toldNote(n, from)), want)
	}
	n = note(-2, 1)
	same(t, "an account's", told(t, s, 2, toldNote(n, 9)), posted(hears(s, 2, 1), noteMail(n), 8, 9))
	for _, f := range []api.Feed{toldNote(n, 16), toldNote(n, 10), toldNote(n, 1), toldNote(note(1, 0), 16), toldNote(note(1, 2), 16), toldNote(note(1, 1), 24), toldNote(note(9, 0), 16), toldNote(note(-10, 0), 72), toldNote(note(1, -1), 16)} {
		same(t, "not taken", told(t, s, 2, f), hears(s, 2, 1))
	}
}

// TestP203Acks: an Ack lets go of what was told; nothing is sent back.
func TestP203Acks(t *testing.T) {
	s := tells(home(), 0, toldFace(0, 9)) // of 0: the numbers 4 and 5, Next 6
	for seq := range 7 {
		next, back := take(t, s, ack(0, 1, seq))
		same(t, "back", back, nil)
		same(t, "acknowledged", next, linked(s, 0, func(l *api.Link) { l.Queue = l.Queue[min(2, max(0, seq-4)):] }))
	}
	untaken(t, "above Next", s, ack(0, 1, 7), api.ErrArg)
	untaken(t, "above Next", s, ack(2, 1, 1), api.ErrArg)
	untaken(t, "above Next", s, ack(3, 1, most), api.ErrArg)
	// What an Ack has beside its number is not looked at.
	p := ack(0, 1, 6)
	p.Feed = api.Feed{Kind: 99, To: -1}
	next, _ := take(t, s, p)
	same(t, "anything", next, linked(s, 0, func(l *api.Link) { l.Queue = nil }))
	next, back := take(t, s, ack(2, 1, 0))
	same(t, "back", back, nil)
	same(t, "a new link", next, linked(s, 2, func(*api.Link) {}))
}

// TestP203Turn: what comes early is done in its turn, what comes again is not.
func TestP203Turn(t *testing.T) {
	s := home() // 2 have come of 0
	come := func(seq, expect int, f api.Feed) {
		t.Helper()
		next, back := take(t, s, data(0, 1, seq, f))
		same(t, "back", back, []api.Packet{ack(1, 0, expect)})
		s = next
	}
	m := func(n int) api.Feed { return toldDevice(8, noMail(n, n)) }
	want := s
	early := func(l ...api.Early) api.Server {
		return linked(want, 0, func(x *api.Link) { x.Early = l })
	}
	come(4, 2, m(4))
	same(t, "early", s, early(api.Early{Seq: 4, Feed: m(4)}))
	come(3, 2, m(3))
	same(t, "early", s, early(api.Early{Seq: 3, Feed: m(3)}, api.Early{Seq: 4, Feed: m(4)}))
	come(1, 2, m(1))
	come(3, 2, m(33))
	same(t, "again", s, early(api.Early{Seq: 3, Feed: m(3)}, api.Early{Seq: 4, Feed: m(4)}))
	come(2, 5, m(2))
	want = hears(posted(posted(posted(want, noMail(2, 2), 8), noMail(3, 3), 8), noMail(4, 4), 8), 0, 3)
	same(t, "in turn", s, want)
	for seq := range 5 {
		come(seq, 5, m(seq))
		same(t, "again", s, want)
	}
	come(5+pending, 5, m(9))
	same(t, "far", s, early(api.Early{Seq: 5 + pending, Feed: m(9)}))
	come(6+pending, 5, m(9))
	same(t, "too far", s, early(api.Early{Seq: 5 + pending, Feed: m(9)}))
}

// TestP203Order: what one told thing does is there for the next one.
func TestP203Order(t *testing.T) {
	s := home()
	c, d := commit(9, 0, 2), commit(9, 1, 2, 13)
	s, _ = take(t, s, data(2, 1, 3, toldFace(9, 16)))
	s, _ = take(t, s, data(2, 1, 2, toldNote(note(9, 1), 16)))
	s, _ = take(t, s, data(2, 1, 1, toldCommit(16, d)))
	s, back := take(t, s, data(2, 1, 0, toldCommit(16, c)))
	same(t, "back", back, []api.Packet{ack(1, 2, 4)})
	want := logged(logged(hears(home(), 2, 4), c), d)
	for _, f := range []api.Feed{toldUser(2, commitMail(c)), toldUser(2, commitMail(d)), toldUser(2, noteMail(note(9, 1))), toldDevice(16, faceMail(d))} {
		want = tells(want, 2, f)
	}
	same(t, "all", s, want)

	// Two commits of one epoch: the second one is told no.
	s = told(t, told(t, home(), 2, toldCommit(16, c)), 0, toldCommit(0, commit(9, 0, 0)))
	want = tells(logged(tells(hears(hears(home(), 2, 1), 0, 1), 2, toldUser(2, commitMail(c))), c), 0, toldDevice(0, noMail(9, 0)))
	same(t, "two of an epoch", s, want)
}

// TestP203PassedOver: of what came early, what may not be, or is for another server, is passed over.
func TestP203PassedOver(t *testing.T) {
	bad := badTold()
	s := linked(home(), 2, func(l *api.Link) {
		for i, f := range bad {
			if f.Kind >= api.FdCommit && f.Kind <= api.FdNote {
				l.Early = append(l.Early, api.Early{Seq: 1 + len(l.Early), Feed: f})
			}
			if i%5 == 0 {
				l.Early = append(l.Early, api.Early{Seq: 1 + len(l.Early), Feed: toldDevice(9, noMail(i, i))})
			}
		}
	})
	many := 1 + len(of(s, 2).Early)
	next, back := take(t, s, data(2, 1, 0, toldDevice(8, noMail(7, 7))))
	same(t, "back", back, []api.Packet{ack(1, 2, many)})
	want := posted(linked(s, 2, func(l *api.Link) { l.Expect, l.Early = many, nil }), noMail(7, 7), 8)
	for i := 0; i < len(bad); i += 5 {
		want = posted(want, noMail(i, i), 9)
	}
	same(t, "all", next, want)
}

// badTold are some things that may not be told to the server 1.
func badTold() (l []api.Feed) {
	for _, kind := range []api.FeedKind{0, 7, 8, 255} {
		l = append(l, api.Feed{Kind: kind, To: 1, From: 8, Commit: commit(1, 2, 1), Note: note(1, 1)})
	}
	for _, from := range []int{-1, 512, math.MinInt, math.MaxInt} {
		l = append(l, toldCommit(from, commit(1, 2, 1)), toldAsk(1, from), toldFace(1, from), toldNote(note(1, 1), from))
	}
	for _, user := range []int{-1, 64, 65, -3, 0, 2, 3, 4, 63, math.MinInt, math.MaxInt} {
		l = append(l, toldUser(user, noMail(1, 1)), toldAsk(user, 8))
	}
	for _, device := range []int{-1, 512, 520, 0, 7, 16, 39, 48, 511, math.MinInt, math.MaxInt} {
		l = append(l, toldDevice(device, noMail(1, 1)))
	}
	for _, group := range []int{-65, 64, 65, -66, 0, 2, 3, 4, 63, -1, -3, -4, -5, -64, math.MinInt, math.MaxInt} {
		l = append(l, toldFace(group, 8), toldNote(note(group, 0), 8))
	}
	for _, c := range badCommits() {
		l = append(l, toldCommit(8, c))
	}
	return append(l, toldCommit(8, commit(0, 0, 1)), toldCommit(8, commit(2, 0, 1)), toldCommit(8, commit(-1, 0, 0)), toldCommit(8, commit(-3, 0, 16)))
}

// TestP203Arg: packets that may not be, or are not for this server.
func TestP203Arg(t *testing.T) {
	s := home()
	for _, f := range badTold() {
		for _, from := range []int{0, 2, 3} {
			untaken(t, "what is told", s, data(from, 1, of(s, from).Expect, f), api.ErrArg)
		}
		untaken(t, "what is told early", s, data(2, 1, 5, f), api.ErrArg)
		untaken(t, "what was told", s, data(0, 1, 0, f), api.ErrArg)
	}
	good := toldAsk(1, 8)
	for _, n := range []int{-1, 4, 5, math.MinInt, math.MaxInt} {
		untaken(t, "From", s, data(n, 1, 0, good), api.ErrArg)
		untaken(t, "From", s, ack(n, 1, 0), api.ErrArg)
		untaken(t, "To", s, data(0, n, 0, good), api.ErrArg)
		untaken(t, "To", s, ack(0, n, 0), api.ErrArg)
	}
	for _, n := range []int{0, 2, 3} {
		untaken(t, "to another", s, data(0, n, 2, good), api.ErrArg)
		untaken(t, "to another", s, ack(0, n, 0), api.ErrArg)
	}
	untaken(t, "from itself", s, data(1, 1, 0, good), api.ErrArg)
	untaken(t, "from itself", s, ack(1, 1, 0), api.ErrArg)
	for _, seq := range []int{-1, most + 1, math.MinInt, math.MaxInt} {
		untaken(t, "Seq", s, data(0, 1, seq, good), api.ErrArg)
		untaken(t, "Seq", s, ack(0, 1, seq), api.ErrArg)
	}
	untaken(t, "Seq", s, data(0, 1, most, good), api.ErrArg)
	take(t, s, data(0, 1, most-1, good))
	s = linked(s, 0, func(l *api.Link) { l.Next = most })
	take(t, s, ack(0, 1, most))
}

// TestP203ArgAt0: at the server 0, too, where whatever is nobody's could seem to be at home.
func TestP203ArgAt0(t *testing.T) {
	s := ask(t, newServer(0), 0, opens(commit(-1, 0, 0)))
	for _, n := range []int{-1, -4, -8, -32, 512, 544, 1 << 20, math.MinInt, math.MaxInt} {
		for _, f := range []api.Feed{toldDevice(n, noMail(1, 1)), toldUser(n, noMail(1, 1)), toldAsk(n, 0), toldAsk(0, n), toldFace(0, n), toldNote(note(0, 0), n), toldCommit(n, commit(0, 0, 0))} {
			untaken(t, "what is told", s, data(2, 0, 0, f), api.ErrArg)
		}
		unasked(t, "device", s, n, asks(0), api.ErrArg)
		unasked(t, "device", s, n, opens(commit(-1, 0, 0)), api.ErrArg)
		unasked(t, "user", s, 0, asks(n), api.ErrArg)
		s.Boxes = append(s.Boxes, box(n, 0))
		if e := server.Check(s); e != api.ErrArg {
			t.Error("a box", n, e)
		}
		s.Boxes = s.Boxes[:1]
	}
	for _, g := range []int{-65, -68, -69, 64, 68, math.MinInt, math.MaxInt} {
		for _, f := range []api.Feed{toldFace(g, 0), toldNote(note(g, 0), 0), toldCommit(0, commit(g, 0, 0))} {
			untaken(t, "what is told", s, data(2, 0, 0, f), api.ErrArg)
		}
		unasked(t, "group", s, 0, faces(g), api.ErrArg)
		unasked(t, "group", s, 0, notes(note(g, 0)), api.ErrArg)
		unasked(t, "group", s, 0, commits(commit(g, 0, 0)), api.ErrArg)
	}
}

// TestP203Fields: fields that a kind has no name for are not looked at.
func TestP203Fields(t *testing.T) {
	s := home()
	for _, f := range []api.Feed{toldCommit(16, commit(1, 2, 1)), toldUser(1, noMail(2, 3)), toldDevice(8, noMail(2, 3)), toldAsk(1, 16), toldFace(-2, 16), toldNote(note(1, 1), 16)} {
		want := told(t, s, 2, f)
		if f.Kind == api.FdCommit || f.Kind == api.FdNote {
			f.To = -7
		}
		if f.Kind == api.FdMail || f.Kind == api.FdDevice {
			f.From = -7
		} else {
			f.Mail = api.Mail{Kind: 99, Group: -900, Commit: api.Commit{Epoch: -1}}
		}
		if f.Kind != api.FdCommit {
			f.Commit = api.Commit{Group: 900}
		}
		if f.Kind != api.FdNote {
			f.Note = api.Note{Group: 900}
		}
		same(t, "anything", told(t, s, 2, f), want)
	}
}

// TestP203Limit: what would have to be told to a server whose link has no room is not taken; the packet is as if it had been lost.
func TestP203Limit(t *testing.T) {
	s := full(home(), 2)
	for _, f := range []api.Feed{toldCommit(16, commit(1, 1, 1)), toldCommit(0, commit(1, 2, 1)), toldAsk(1, 16), toldFace(1, 16), toldNote(note(1, 1), 0)} {
		for _, from := range []int{0, 2, 3} {
			untaken(t, "no room", s, data(from, 1, of(s, from).Expect, f), api.ErrLimit)
			if next, _ := take(t, s, data(from, 1, of(s, from).Expect+1, f)); len(of(next, from).Early) != 1 {
				t.Error("early")
			}
		}
	}
	for _, f := range []api.Feed{toldCommit(0, commit(1, 1, 1)), toldCommit(16, commit(5, 1, 1, 4, 3)), toldAsk(1, 24), toldFace(1, 0), toldAsk(9, 16), toldFace(9, 16), toldNote(note(1, 0), 16), toldUser(1, noMail(1, 1)), toldDevice(8, noMail(1, 1))} {
		told(t, s, 2, f)
	}
	// The second one of what is told would be too much: the first one is not done either.
	early := linked(s, 0, func(l *api.Link) { l.Early = []api.Early{{Seq: 3, Feed: toldAsk(1, 16)}} })
	untaken(t, "the second one", early, data(0, 1, 2, toldDevice(8, noMail(1, 1))), api.ErrLimit)
	early = linked(home(), 0, func(l *api.Link) { l.Early = []api.Early{{Seq: 3, Feed: toldAsk(1, 16)}} })
	next, back := take(t, early, data(0, 1, 2, toldDevice(8, noMail(1, 1))))
	same(t, "back", back, []api.Packet{ack(1, 0, 4)})
	same(t, "both", next, tells(hears(posted(home(), noMail(1, 1), 8), 0, 2), 2, toldDevice(16, cardMail(home().Cards[0]))))

	// An Ack makes room.
	next, _ = take(t, s, ack(2, 1, 4))
	next = told(t, next, 0, toldAsk(1, 16))
	if l := of(next, 2); len(l.Queue) != pending || l.Next != pending+4 {
		t.Error(len(l.Queue), l.Next)
	}
	// No number is left.
	s = linked(home(), 2, func(l *api.Link) { l.Next = most })
	untaken(t, "no number", s, data(0, 1, 2, toldAsk(1, 16)), api.ErrLimit)
}

// TestP203Users: a conversation's members get its mail rising by user, whatever their places in the tree.
func TestP203Users(t *testing.T) {
	s := newServer(2)
	c := commit(2, 0, 63, 3, 7, 1, 59, 0)
	s = told(t, s, 1, toldCommit(8, c))
	n := note(2, 0)
	s = told(t, s, 1, toldNote(n, 8))
	d := commit(2, 1, 55)
	s = told(t, s, 1, toldCommit(8, d))
	var want []api.Feed
	for _, m := range []api.Mail{commitMail(c), noteMail(n), commitMail(d)} {
		users := []int{3, 7, 59, 63}
		if m.Commit.Epoch == 1 {
			users = []int{3, 7, 55, 59, 63}
		}
		for _, user := range users {
			want = append(want, toldUser(user, m))
		}
	}
	same(t, "to 3", of(s, 3).Queue, want)
	if l := of(s, 1); len(l.Queue) != 3 || l.Expect != 3 || len(of(s, 0).Queue) != 3 {
		t.Error(l)
	}
	if !slices.IsSortedFunc(s.Links, func(a, b api.Link) int { return a.Peer - b.Peer }) || len(s.Links) != 3 {
		t.Error(s.Links)
	}
}
