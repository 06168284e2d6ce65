package server

import (
	"phratry/api"
	"phratry/ledger"
	"phratry/may"
	"phratry/roster"
	"phratry/tree"
)

// asTold is a request as one server tells it to another: what is asked for is done where it belongs, so whether that is
// here is looked at in one place alone.
func asTold(device int, r api.Request) api.Feed {
	switch r.Kind {
	case api.RqOpen, api.RqCommit:
		return api.Feed{Kind: api.FdCommit, From: device, Commit: r.Commit}
	case api.RqAsk:
		return api.Feed{Kind: api.FdAsk, To: r.N, From: device}
	case api.RqFace:
		return api.Feed{Kind: api.FdFace, To: r.N, From: device}
	case api.RqNote:
		return api.Feed{Kind: api.FdNote, From: device, Note: r.Note}
	}
	return api.Feed{}
}

func forDevice(device int, m api.Mail) api.Feed {
	return api.Feed{Kind: api.FdDevice, To: device, Mail: m}
}

func forUser(user int, m api.Mail) api.Feed {
	return api.Feed{Kind: api.FdMail, To: user, Mail: m}
}

// homeOf is the server where something that is told is to be done; ErrArg, if it concerns nobody that may be.
func homeOf(f api.Feed) (int, api.Errno) {
	switch f.Kind {
	case api.FdCommit:
		return roster.GroupHome(f.Commit.Group)
	case api.FdMail, api.FdAsk:
		return roster.Home(f.To)
	case api.FdDevice:
		return homeOfDevice(f.To)
	case api.FdFace:
		return roster.GroupHome(f.To)
	case api.FdNote:
		return roster.GroupHome(f.Note.Group)
	}
	return 0, api.ErrArg
}

func homeOfDevice(device int) (int, api.Errno) {
	user, e := roster.User(device)
	if e != api.OK {
		return 0, e
	}
	return roster.Home(user)
}

// mayBeTold: may something be told, to whichever server?
func mayBeTold(f api.Feed) bool {
	if _, e := homeOf(f); e != api.OK {
		return false
	}
	switch f.Kind {
	case api.FdMail, api.FdDevice:
		return true
	case api.FdCommit:
		return may.Device(f.From) && mayBeDecided(f.Commit)
	}
	return may.Device(f.From)
}

// mayHear: may something be told, and to this server?
func mayHear(s api.Server, f api.Feed) bool {
	home, _ := homeOf(f)
	return mayBeTold(f) && home == s.Number
}

// mayBeDecided: may a commit be decided, wherever its group is at home?
func mayBeDecided(c api.Commit) bool {
	// No logs refuse a commit with ErrArg just when no others take it either.
	_, e := ledger.Append(nil, c)
	return e != api.ErrArg && fits(c)
}

// fits: does a commit that may be taken fit its group?
func fits(c api.Commit) bool {
	if _, e := roster.GroupHome(c.Group); e != api.OK || c.Group < 0 && c.Card <= 0 {
		return false
	}
	for _, member := range tree.Members(c.Next) {
		if !mayBeMember(c.Group, member) {
			return false
		}
	}
	return true
}

// mayBeMember: of a conversation users, of an account the devices of its user.
func mayBeMember(group, member int) bool {
	if group >= 0 {
		return may.User(member)
	}
	user, e := roster.User(member)
	return e == api.OK && accountOf(user) == group
}

func accountOf(user int) int {
	return -1 - user
}
