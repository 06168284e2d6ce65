package queue

import (
	"slices"

	"phratry/api"
	"phratry/fresh"
	"phratry/may"
)

// mayBe: may links be?
func mayBe(l []api.Link) bool {
	for i, link := range l {
		if i > 0 && l[i-1].Peer >= link.Peer || !may.Server(link.Peer) || !maySend(link) || !mayExpect(link) {
			return false
		}
	}
	return true
}

func maySend(link api.Link) bool {
	if link.Next < 0 || link.Next > may.Numbers || len(link.Queue) > api.MaxPending || len(link.Queue) > link.Next {
		return false
	}
	for _, f := range link.Queue {
		if !may.Feed(f) {
			return false
		}
	}
	return true
}

func mayExpect(link api.Link) bool {
	if link.Expect < 0 || link.Expect > may.Numbers || len(link.Early) > api.MaxPending {
		return false
	}
	above := link.Expect
	for _, e := range link.Early {
		if e.Seq <= above || e.Seq >= may.Numbers || !may.Feed(e.Feed) {
			return false
		}
		above = e.Seq
	}
	return true
}

// first is the number of the first feed in a Queue, or of the next one, if there is none.
func first(link api.Link) int {
	return link.Next - len(link.Queue)
}

// linked is copies of links that may be, and among them that of a peer, made at its place if there is none.
func linked(l []api.Link, peer int) ([]api.Link, *api.Link) {
	next := fresh.List(l, fresh.Link)
	at := 0
	for at < len(next) && next[at].Peer < peer {
		at++
	}
	if at == len(next) || next[at].Peer != peer {
		next = slices.Insert(next, at, api.Link{Peer: peer})
	}
	return next, &next[at]
}

// acknowledge: what has a number below seq, which is at most Next, has come to the other end.
func acknowledge(link *api.Link, seq int) {
	come := max(0, seq-first(*link))
	link.Queue = slices.Delete(link.Queue, 0, come)
}
