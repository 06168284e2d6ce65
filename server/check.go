package server

import (
	"phratry/api"
	"phratry/ledger"
	"phratry/may"
	"phratry/post"
	"phratry/queue"
	"phratry/roster"
)

// mayBe: may a server be?
func mayBe(s api.Server) bool {
	return may.Server(s.Number) && haveLogs(s) && haveBoxes(s) && haveCards(s) && haveLinks(s)
}

func haveLogs(s api.Server) bool {
	if ledger.Check(s.Logs) != api.OK {
		return false
	}
	for _, log := range s.Logs {
		if home, e := roster.GroupHome(log.Group); e != api.OK || home != s.Number {
			return false
		}
		for _, c := range log.Commits {
			if !fits(c) {
				return false
			}
		}
	}
	return true
}

func haveBoxes(s api.Server) bool {
	if post.Check(s.Boxes) != api.OK {
		return false
	}
	for _, b := range s.Boxes {
		if !ownDevice(s, b.Device) {
			return false
		}
	}
	return true
}

func haveCards(s api.Server) bool {
	// A card that may be is refused just when those that are there may not be.
	if _, e := roster.SetCard(s.Cards, api.Card{Pub: 1}); e != api.OK {
		return false
	}
	for _, c := range s.Cards {
		if home, _ := roster.Home(c.User); home != s.Number {
			return false
		}
	}
	return true
}

func haveLinks(s api.Server) bool {
	if queue.Check(s.Links) != api.OK {
		return false
	}
	for _, link := range s.Links {
		if link.Peer == s.Number {
			return false
		}
	}
	return true
}

func ownDevice(s api.Server, device int) bool {
	home, e := homeOfDevice(device)
	return e == api.OK && home == s.Number
}

// mayAsk: may a device ask a server, and for that?
func mayAsk(s api.Server, device int, r api.Request) bool {
	if !ownDevice(s, device) || r.Seq < 0 || !mayBeTold(asTold(device, r)) {
		return false
	}
	user, _ := roster.User(device)
	return r.Kind != api.RqOpen || r.Commit.Group == accountOf(user) && r.Commit.Epoch == 0
}

// mayTake: may a server take a packet?
func mayTake(s api.Server, p api.Packet) bool {
	if !may.Packet(p) || p.To != s.Number || p.From == s.Number {
		return false
	}
	return p.Ack || mayHear(s, p.Feed)
}
