// Package fresh copies what the layers hand on into memory of its own: an answer shares none with what was handed in, nor do two lists within one.
package fresh

import (
	"slices"

	"phratry/api"
)

// List is a list of such copies.
func List[T any](l []T, one func(T) T) []T {
	next := slices.Clone(l)
	for i, x := range next {
		next[i] = one(x)
	}
	return next
}

func Node(n api.Node) api.Node {
	n.Unmerged = slices.Clone(n.Unmerged)
	return n
}

func Tree(t api.Tree) api.Tree {
	return api.Tree{Nodes: List(t.Nodes, Node)}
}

func Commit(c api.Commit) api.Commit {
	c.Adds, c.Removes = slices.Clone(c.Adds), slices.Clone(c.Removes)
	c.Seals, c.Joins = slices.Clone(c.Seals), slices.Clone(c.Joins)
	c.Next = Tree(c.Next)
	return c
}

func Face(f api.Face) api.Face {
	f.Tree = Tree(f.Tree)
	return f
}

func State(st api.State) api.State {
	st.Tree, st.Keys = Tree(st.Tree), slices.Clone(st.Keys)
	return st
}

func Pending(p api.Pending) api.Pending {
	return api.Pending{Commit: Commit(p.Commit), State: State(p.State)}
}

func Request(r api.Request) api.Request {
	r.Commit = Commit(r.Commit)
	return r
}

func Device(d api.Device) api.Device {
	d.Past, d.States, d.Waits = slices.Clone(d.Past), List(d.States, State), List(d.Waits, Pending)
	d.Outbox, d.Cards = List(d.Outbox, Request), slices.Clone(d.Cards)
	d.Faces, d.Inbox = List(d.Faces, Face), slices.Clone(d.Inbox)
	return d
}

func Log(l api.Log) api.Log {
	l.Commits = List(l.Commits, Commit)
	return l
}

func Mail(m api.Mail) api.Mail {
	m.Commit, m.Face = Commit(m.Commit), Face(m.Face)
	return m
}

func Box(b api.Box) api.Box {
	b.Mail = List(b.Mail, Mail)
	return b
}

func Feed(f api.Feed) api.Feed {
	f.Commit, f.Mail = Commit(f.Commit), Mail(f.Mail)
	return f
}

func Packet(p api.Packet) api.Packet {
	p.Feed = Feed(p.Feed)
	return p
}

func Early(e api.Early) api.Early {
	e.Feed = Feed(e.Feed)
	return e
}

func Link(l api.Link) api.Link {
	l.Queue, l.Early = List(l.Queue, Feed), List(l.Early, Early)
	return l
}

func Server(s api.Server) api.Server {
	s.Logs, s.Boxes = List(s.Logs, Log), List(s.Boxes, Box)
	s.Cards, s.Links = slices.Clone(s.Cards), List(s.Links, Link)
	return s
}
