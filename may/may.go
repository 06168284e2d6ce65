// Package may is what layers share that keep no terms: which numbers may be (DOC.md, Numbers), and which feeds and packets (chapter 17).
package may

import "phratry/api"

// Numbers is how many there are for what a link tells, from 0 on.
const Numbers = 1 << 40

// Server: may a server have that number?
func Server(n int) bool {
	return n >= 0 && n < api.MaxServers
}

// Feed: may something be told?
func Feed(f api.Feed) bool {
	return f.Kind >= api.FdCommit && f.Kind <= api.FdNote
}

// Packet: may a packet be? An Ack tells how far the other end has come, which may be behind the last number; its Feed
// is not looked at.
func Packet(p api.Packet) bool {
	if !Server(p.From) || !Server(p.To) || p.Seq < 0 {
		return false
	}
	if p.Ack {
		return p.Seq <= Numbers
	}
	return p.Seq < Numbers && Feed(p.Feed)
}
