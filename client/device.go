package client

import (
	"phratry/api"
	"phratry/may"
)

// mostStates: a device holds so many groups at most: all conversations, and its account.
const mostStates = api.MaxServers*api.MaxGroups + 1

func mayBe(d api.Device) bool {
	if !may.Device(d.Number) || d.Seq < 0 || d.Cursor < 0 || len(d.States) > mostStates {
		return false
	}
	_, there := stateOf(d, accountOf(d))
	return there || !d.In
}

func userOf(d api.Device) int { return d.Number / api.MaxDevices }

func accountOf(d api.Device) int { return -1 - userOf(d) }

// stateOf is the state of a group, if a device holds it.
func stateOf(d api.Device, g int) (api.State, bool) { return find(d.States, groupOfState, g) }

// conversation is the state of a conversation, if a device holds it. (A number below 0 is none, though it be the account's.)
func conversation(d api.Device, g int) (api.State, bool) {
	if g < 0 {
		return api.State{}, false
	}
	return stateOf(d, g)
}

// waitOf is the commit in a group for which a device waits, if it does.
func waitOf(d api.Device, g int) (api.Pending, bool) { return find(d.Waits, groupOfWait, g) }

func waitsIn(d api.Device, g int) bool {
	_, there := waitOf(d, g)
	return there
}

// secretOf is what an epoch of its account has handed out, if a device has that.
func secretOf(d api.Device, epoch int) (int, bool) {
	p, there := find(d.Past, epochOfPast, epoch)
	return p.Secret, there
}

func groupOfState(st api.State) int { return st.Group }

func groupOfWait(p api.Pending) int { return p.Commit.Group }

func epochOfPast(p api.Past) int { return p.Epoch }

func userOfCard(c api.Card) int { return c.User }

func groupOfFace(f api.Face) int { return f.Group }
