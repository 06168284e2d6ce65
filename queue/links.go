package queue

import (
	"slices"

	"phratry/api"
	"phratry/fresh"
)

// numbers is how many there are for what a link tells, from 0 on.
const numbers = 1 << 40

func isServer(n int) bool {
	return n >= 0 && n < api.MaxServers
}

func mayBeTold(f api.Feed) bool {
	return f.Kind >= api.FdCommit && f.Kind <= api.FdNote
}

// mayBeTaken: may a packet be? An Ack tells how far the other end has come, which may be behind the last number; its
// Feed is not looked at.
func mayBeTaken(p api.Packet) bool {
	if !isServer(p.From) || !isServer(p.To) || p.Seq < 0 {
		return false
	}
	if p.Ack {
		return p.Seq <= numbers
	}
	return p.Seq < numbers && mayBeTold(p.Feed)
}

// mayBe: may links be?
func mayBe(l []api.Link) bool {
	for i, link := range l {
		if i > 0 && l[i-1].Peer >= link.Peer || !isServer(link.Peer) || !maySend(link) || !mayExpect(link) {
			return false
		}
	}
	return true
}

func maySend(link api.Link) bool {
	if link.Next < 0 || link.Next > numbers || len(link.Queue) > api.MaxPending || len(link.Queue) > link.Next {
		return false
	}
	for _, f := range link.Queue {
		if !mayBeTold(f) {
			return false
		}
	}
	return true
}

func mayExpect(link api.Link) bool {
	if link.Expect < 0 || link.Expect > numbers || len(link.Early) > api.MaxPending {
		return false
	}
	above := link.Expect
	for _, e := range link.Early {
		if e.Seq <= above || e.Seq >= numbers || !mayBeTold(e.Feed) {
			return false
		}
		above = e.Seq
	}
	return true
}

// first is the number of the first feed in a Queue, or of the next one, if there is none.
func first(link api.Link) int {
	return link.Next - len(link.Queue)
}

// linked is copies of links that may be, and among them that of a peer, made at its place if there is none.
func linked(l []api.Link, peer int) ([]api.Link, *api.Link) {
	next := fresh.List(l, fresh.Link)
	at := 0
	for at < len(next) && next[at].Peer < peer {
		at++
	}
	if at == len(next) || next[at].Peer != peer {
		next = slices.Insert(next, at, api.Link{Peer: peer})
	}
	return next, &next[at]
}

// acknowledge: what has a number below seq, which is at most Next, has come to the other end.
func acknowledge(link *api.Link, seq int) {
	come := max(0, seq-first(*link))
	link.Queue = slices.Delete(link.Queue, 0, come)
}
