package server

import (
	"phratry/api"
	"phratry/fresh"
	"phratry/ledger"
	"phratry/post"
	"phratry/queue"
)

// work is what is done in one call: the server, as far as it has come.
type work struct{ own api.Server }

// givenUp is the panic by which work ends that would go above a limit.
type givenUp struct{ why api.Errno }

// worked is a server behind some work; none, if that was given up.
func worked(s api.Server, do func(*work)) (next api.Server, e api.Errno) {
	w := work{own: fresh.Server(s)}
	defer func() {
		switch p := recover().(type) {
		case nil:
		case givenUp:
			next, e = api.Server{}, p.why
		default:
			panic(p) // a fault of the program itself: it is not hidden
		}
	}()
	do(&w)
	return w.own, api.OK
}

// ask does what a device asks for, and counts it.
func (w *work) ask(device int, r api.Request) {
	there, out := post.Has(w.own.Boxes, device)
	if !there {
		if r.Kind == api.RqOpen {
			w.open(device, r)
		}
		return
	}
	if w.count(device, r.Seq) && !out && r.Kind != api.RqOpen {
		w.pass(asTold(device, r))
	}
}

// open lets in a device that has no box, if nobody has opened its account yet.
func (w *work) open(device int, r api.Request) {
	if ledger.Len(w.own.Logs, r.Commit.Group) > 0 {
		return
	}
	w.own.Boxes, _ = post.Open(w.own.Boxes, device)
	w.count(device, r.Seq)
	w.pass(asTold(device, r))
}

// count: one request more of a device is done; false, if it was done before.
func (w *work) count(device, seq int) bool {
	boxes, e := post.Done(w.own.Boxes, device, seq)
	switch e {
	case api.OK:
		w.own.Boxes = boxes
		return true
	case api.ErrStale:
		return false
	}
	panic(givenUp{e})
}

// hear does what was told, in its turn. What came early was not looked at when it came.
func (w *work) hear(told []api.Feed) {
	for _, f := range told {
		if mayHear(w.own, f) {
			w.pass(f)
		}
	}
}

// pass: what may be told is done here, if it belongs here; else it is told to where it does.
func (w *work) pass(f api.Feed) {
	home, _ := homeOf(f)
	if home != w.own.Number {
		w.tell(home, f)
		return
	}
	do := deeds()[f.Kind]
	do(w, f)
}

func (w *work) tell(peer int, f api.Feed) {
	links, e := queue.Push(w.own.Links, peer, f)
	if e != api.OK {
		panic(givenUp{e})
	}
	w.own.Links = links
}
