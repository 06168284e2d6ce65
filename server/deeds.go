package server

import (
	"slices"

	"phratry/api"
	"phratry/ledger"
	"phratry/post"
	"phratry/roster"
	"phratry/tree"
)

// deeds is what is done at home with each kind of what is told.
func deeds() [api.FdNote + 1]func(*work, api.Feed) {
	return [...]func(*work, api.Feed){
		api.FdCommit: (*work).decide,
		api.FdMail:   (*work).mailUser,
		api.FdDevice: (*work).mailDevice,
		api.FdAsk:    (*work).showCard,
		api.FdFace:   (*work).showFace,
		api.FdNote:   (*work).takeNote,
	}
}

// decide: a commit is taken, or whoever sent it is told that it is not.
func (w *work) decide(f api.Feed) {
	c := f.Commit
	before, _ := ledger.Last(w.own.Logs, c.Group)
	logs, e := ledger.Append(w.own.Logs, c)
	if e != api.OK {
		w.pass(forDevice(f.From, api.Mail{Kind: api.MlNo, Group: c.Group, Epoch: c.Epoch}))
		return
	}
	w.own.Logs = logs
	m := api.Mail{Kind: api.MlCommit, Commit: c}
	if c.Group < 0 {
		w.own.Boxes, _ = roster.Settle(w.own.Boxes, before.Next, c.Next, m)
		w.own.Cards, _ = roster.SetCard(w.own.Cards, api.Card{User: -1 - c.Group, Epoch: c.Epoch, Pub: c.Card})
		return
	}
	users, _ := ledger.Touched(w.own.Logs, c.Group, c.Epoch)
	for _, user := range users {
		w.pass(forUser(user, m))
	}
}

func (w *work) mailUser(f api.Feed) {
	devices, _ := roster.Devices(w.own.Boxes, f.To)
	for _, device := range devices {
		w.mailDevice(forDevice(device, f.Mail))
	}
}

// mailDevice: mail never goes to a box that is not there, or Out.
func (w *work) mailDevice(f api.Feed) {
	if boxes, e := post.Put(w.own.Boxes, f.To, f.Mail); e == api.OK {
		w.own.Boxes = boxes
	}
}

func (w *work) showCard(f api.Feed) {
	if card, there := roster.Card(w.own.Cards, f.To); there {
		w.pass(forDevice(f.From, api.Mail{Kind: api.MlCard, Card: card}))
	}
}

func (w *work) showFace(f api.Feed) {
	if c, there := ledger.Last(w.own.Logs, f.To); there {
		face := api.Face{Group: c.Group, Epoch: c.Epoch, Tree: c.Next, Pub: c.Face}
		w.pass(forDevice(f.From, api.Mail{Kind: api.MlFace, Face: face}))
	}
}

// takeNote: a note goes to all who are in its group now, if the sender is one of them, and the note is of now.
func (w *work) takeNote(f api.Feed) {
	last, there := ledger.Last(w.own.Logs, f.Note.Group)
	if !there || f.Note.Epoch != last.Epoch || tree.Find(last.Next, memberOf(f.Note.Group, f.From)) < 0 {
		return
	}
	members := tree.Members(last.Next)
	slices.Sort(members)
	for _, member := range members {
		m := api.Mail{Kind: api.MlNote, Note: f.Note}
		if f.Note.Group < 0 {
			w.pass(forDevice(member, m))
		} else {
			w.pass(forUser(member, m))
		}
	}
}

// memberOf is what a device is in a group: itself in an account, its user in a conversation.
func memberOf(group, device int) int {
	if group < 0 {
		return device
	}
	user, _ := roster.User(device)
	return user
}
