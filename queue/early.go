package queue

import (
	"container/heap"

	"phratry/api"
)

// pile is a heap of what came, the least number on top. It has no more than where each thing lies, for things are large.
type pile []*api.Early

func (p pile) Len() int           { return len(p) }
func (p pile) Less(i, j int) bool { return p[i].Seq < p[j].Seq }
func (p pile) Swap(i, j int)      { p[i], p[j] = p[j], p[i] }

func (p *pile) Push(x any) {
	*p = append(*p, x.(*api.Early))
}

func (p *pile) Pop() any {
	last := len(*p) - 1
	x := (*p)[last]
	*p = (*p)[:last]
	return x
}

// piled is a heap of a list that rises: as that stands it is one.
func piled(early []api.Early) *pile {
	p := make(pile, len(early), len(early)+1)
	for i := range early {
		p[i] = &early[i]
	}
	return &p
}

// receiver is the end of a link at which things come in.
type receiver struct {
	link *api.Link
	told []api.Feed
}

func (r *receiver) tell(e *api.Early) {
	r.told = append(r.told, e.Feed)
	r.link.Expect++
}

func (r *receiver) keep(e *api.Early) {
	r.link.Early = append(r.link.Early, *e)
}

// way is how something goes on when all with lesser numbers have gone theirs.
func (r *receiver) way(seq int) func(*api.Early) {
	if seq == r.link.Expect {
		return r.tell
	}
	return r.keep
}

// receive: something came to a link; answered is what is told of that, in its turn.
func receive(link *api.Link, came api.Early) []api.Feed {
	if !wanted(*link, came.Seq) {
		return nil
	}
	all := piled(link.Early)
	heap.Push(all, &came)
	r := receiver{link: link}
	link.Early = make([]api.Early, 0, len(*all))
	for len(*all) > 0 {
		e := heap.Pop(all).(*api.Early)
		goOn := r.way(e.Seq)
		goOn(e)
	}
	return r.told
}

// wanted: does a link take what has such a number? Where Early is full, which only numbers from afar in it bring about,
// what comes ahead of its turn is as lost: it will be sent anew.
func wanted(link api.Link, seq int) bool {
	if seq == link.Expect {
		return true
	}
	if seq < link.Expect || seq-link.Expect > api.MaxPending || len(link.Early) == api.MaxPending {
		return false
	}
	for _, e := range link.Early {
		if e.Seq == seq {
			return false
		}
	}
	return true
}
