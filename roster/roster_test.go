package roster_test

import (
	"fmt"
	"math"
	"slices"
	"testing"

	"phratry/api"
	"phratry/post"
	"phratry/roster"
	"phratry/tree"
)

const most = 1 << 40

// no is one mail of many.
func no(n int) api.Mail { return api.Mail{Kind: api.MlNo, Group: -n, Epoch: n} }

// box is one of a device with so many mails, told apart by the device and their places.
func box(device, many int) api.Box {
	b := api.Box{Device: device, Done: many}
	for k := range many {
		b.Mail = append(b.Mail, no(1000*device+k))
	}
	return b
}

func out(b api.Box) api.Box {
	b.Out = true
	return b
}

func with(b api.Box, m api.Mail) api.Box {
	b.Mail = append(slices.Clone(b.Mail), m)
	return b
}

// grown is a tree into which members came one behind the other.
func grown(members ...int) (t api.Tree) {
	for _, m := range members {
		next, _, e := tree.Add(t, api.Add{Member: m, Pub: m%9 + 1})
		if e != api.OK {
			panic(e)
		}
		t = next
	}
	return t
}

// without is a tree out of which members went: it has blank leaves.
func without(t api.Tree, members ...int) api.Tree {
	for _, m := range members {
		next, e := tree.Remove(t, m)
		if e != api.OK {
			panic(e)
		}
		t = next
	}
	return t
}

// tell is the same of an empty list and of none.
func tell(x any) string { return fmt.Sprintf("%+v", x) }

func same(t *testing.T, what string, got, want any) {
	t.Helper()
	if tell(got) != tell(want) {
		t.Errorf("%s: %+v, not %+v", what, got, want)
	}
}

func settle(t *testing.T, l []api.Box, before, behind api.Tree, m api.Mail) []api.Box {
	t.Helper()
	given := tell([]any{l, before, behind, m})
	next, e := roster.Settle(l, before, behind, m)
	if e != api.OK || post.Check(next) != api.OK {
		t.Fatal(e, next)
	}
	if tell([]any{l, before, behind, m}) != given {
		t.Fatal("changed what it was given")
	}
	return next
}

func unsettled(t *testing.T, what string, l []api.Box, before, behind api.Tree) {
	t.Helper()
	given := tell([]any{l, before, behind})
	next, e := roster.Settle(l, before, behind, no(1))
	if e != api.ErrArg || len(next) != 0 {
		t.Error(what, e, next)
	}
	if tell([]any{l, before, behind}) != given {
		t.Error(what, "changed what it was given")
	}
}

func set(t *testing.T, l []api.Card, c api.Card) []api.Card {
	t.Helper()
	before := tell(l)
	next, e := roster.SetCard(l, c)
	if e != api.OK || !cardWords(next) {
		t.Fatal(c, e, next)
	}
	if tell(l) != before {
		t.Fatal("changed what it was given")
	}
	return next
}

func unset(t *testing.T, what string, l []api.Card, c api.Card) {
	t.Helper()
	before := tell(l)
	next, e := roster.SetCard(l, c)
	if e != api.ErrArg || len(next) != 0 || tell(l) != before {
		t.Error(what, c, e, next)
	}
}

// badBoxes are some that may not be: most have one of the device 3.
func badBoxes() map[string][]api.Box {
	spoiled := func(done int) api.Box { return api.Box{Device: 3, Done: done} }
	return map[string][]api.Box{
		"a device of -1":             {box(-1, 1), box(3, 1)},
		"a device of 512":            {box(3, 1), box(511, 1), box(512, 1)},
		"the least":                  {box(math.MinInt, 1), box(3, 1)},
		"the greatest":               {box(3, 1), box(math.MaxInt, 1)},
		"one twice":                  {box(3, 1), box(3, 1)},
		"falling":                    {box(4, 1), box(3, 1)},
		"falling behind rising ones": {box(1, 1), box(3, 2), box(2, 1)},
		"out, and falling":           {out(box(4, 1)), out(box(3, 1))},
		"done of -1":                 {spoiled(-1)},
		"done of one too many":       {box(2, 1), spoiled(most + 1)},
	}
}

// badTrees are some that may not be, though their members are devices, or no devices.
func badTrees() map[string]api.Tree {
	leaf := func(m int) api.Node { return api.Node{Pub: 1, Member: m} }
	of := func(nodes ...api.Node) api.Tree { return api.Tree{Nodes: nodes} }
	return map[string]api.Tree{
		"one blank leaf":          of(api.Node{}),
		"two nodes":               of(leaf(0), api.Node{}),
		"two leaves alone":        of(leaf(0), leaf(1)),
		"four nodes":              of(leaf(0), api.Node{}, leaf(1), api.Node{}),
		"three leaves":            of(leaf(0), api.Node{}, leaf(1), api.Node{}, leaf(2)),
		"16 leaves":               {Nodes: append(make([]api.Node, 30), leaf(0))},
		"nobody on the right":     of(leaf(0), api.Node{}, api.Node{}),
		"one twice":               of(leaf(4), api.Node{}, leaf(4)),
		"a member of -1":          of(leaf(0), api.Node{}, leaf(-1)),
		"a member of the least":   of(leaf(math.MinInt)),
		"a key below 0":           of(api.Node{Pub: -1, Member: 1}),
		"a member without a key":  of(leaf(0), api.Node{}, api.Node{Member: 1}),
		"an epoch below 0":        of(api.Node{Pub: 1, Epoch: -1}),
		"a leaf with unmerged":    of(api.Node{Pub: 1, Unmerged: []int{0}}),
		"a parent with a member":  of(leaf(0), leaf(2), leaf(1)),
		"a parent with strangers": of(leaf(0), api.Node{Pub: 1, Unmerged: []int{2}}, leaf(1)),
	}
}

// strangers are trees that may be, with a member that is no device.
func strangers() map[string]api.Tree {
	return map[string]api.Tree{
		"512":                 grown(512),
		"512 behind devices":  grown(0, 1, 512),
		"512 ahead of others": grown(512, 0, 511, 3, 4),
		"513 in the middle":   grown(0, 513, 1),
		"2^32 and a device":   grown(1<<32 + 3),
		"the greatest":        grown(3, math.MaxInt),
		"all":                 grown(512, 600, 700, 800),
		"beside a blank leaf": without(grown(1, 2, 3, 512), 2),
	}
}

// numbers are users, devices, and what is next to them.
func numbers() []int {
	return []int{math.MinInt, math.MinInt + 1, -1 << 32, -1<<32 + 5, -513, -512, -66, -65, -64, -2, -1, 0, 1, 2, 3, 4, 5, 7, 8, 62, 63, 64, 65, 510, 511, 512, 513, 1<<32 + 3, math.MaxInt}
}

// homes holds a call against what it must answer at each number from first to last, and against ErrArg at all others.
func homes(t *testing.T, call func(int) (int, api.Errno), first, last int, want func(int) int) {
	t.Helper()
	all := numbers()
	for n := -600; n <= 600; n++ {
		all = append(all, n)
	}
	for _, n := range all {
		got, e := call(n)
		switch {
		case n < first || n > last:
			if got != 0 || e != api.ErrArg {
				t.Error(n, got, e)
			}
		case got != want(n) || e != api.OK:
			t.Error(n, got, e, want(n))
		}
	}
}

// turns goes round from 0 to 3, step by step, as far as told.
func turns(times int) (server int) {
	for range times {
		server++
		if server == 4 {
			server = 0
		}
	}
	return server
}

func TestP161Home(t *testing.T) {
	homes(t, roster.Home, 0, 63, turns)
}

func TestP161GroupHome(t *testing.T) {
	homes(t, roster.GroupHome, -64, 63, func(group int) int {
		if group < 0 {
			return turns(-group - 1)
		}
		return turns(group)
	})
	// The account of a user is at home where that is.
	for user := range 64 {
		a, e := roster.GroupHome(-1 - user)
		b, f := roster.Home(user)
		if a != b || e != api.OK || f != api.OK {
			t.Error(user, a, b)
		}
	}
}

func TestP161User(t *testing.T) {
	homes(t, roster.User, 0, 511, func(device int) (user int) {
		for first := 8; device >= first; first += 8 {
			user++
		}
		return user
	})
}

func TestP162Devices(t *testing.T) {
	l := []api.Box{box(0, 1), out(box(1, 2)), box(2, 0), box(7, 1), out(box(8, 1)), out(box(15, 0)), box(24, 3), out(box(31, 0)), box(32, 0), out(box(503, 1)), box(504, 2), box(511, 1)}
	want := map[int][]int{0: {0, 2, 7}, 3: {24}, 4: {32}, 63: {504, 511}}
	for user := range 64 {
		got, e := roster.Devices(l, user)
		same(t, "Devices", got, want[user])
		if e != api.OK {
			t.Error(user, e)
		}
		if got, e := roster.Devices(nil, user); len(got) != 0 || e != api.OK {
			t.Error(user, got, e)
		}
	}
}

// TestP162All: each user has the eight that are its own, when all have boxes; none, when all are out.
func TestP162All(t *testing.T) {
	var l, closed []api.Box
	for device := range 512 {
		l, closed = append(l, box(device, 0)), append(closed, out(box(device, 1)))
	}
	device := 0
	for user := range 64 {
		var want []int
		for range 8 {
			want = append(want, device)
			device++
		}
		got, e := roster.Devices(l, user)
		none, f := roster.Devices(closed, user)
		same(t, "all", got, want)
		if e != api.OK || f != api.OK || len(none) != 0 {
			t.Error(user, e, f, none)
		}
	}
}

func TestP162Wrong(t *testing.T) {
	refuse := func(what string, l []api.Box, user int) {
		t.Helper()
		if got, e := roster.Devices(l, user); e != api.ErrArg || len(got) != 0 {
			t.Error(what, user, got, e)
		}
	}
	for _, user := range numbers() {
		for what, l := range badBoxes() {
			refuse(what, l, user)
		}
		if user < 0 || user > 63 {
			refuse("no user", nil, user)
			refuse("no user", []api.Box{box(0, 1), box(511, 1)}, user)
		}
	}
}

// TestP163Each: of three devices each is in one tree, in the other, in both or in none, and has a box, one that is out, or none.
func TestP163Each(t *testing.T) {
	three := [3]int{3, 4, 511}
	in := func(bits int) (members []int) {
		for i, device := range three {
			if bits>>i&1 == 1 {
				// From the greatest to the least: how leaves stand must not matter.
				members = slices.Insert(members, 0, device)
			}
		}
		return members
	}
	for boxes := range 27 {
		var l []api.Box
		for i, device := range three {
			switch boxes / [3]int{1, 3, 9}[i] % 3 {
			case 1:
				l = append(l, box(device, i))
			case 2:
				l = append(l, out(box(device, i)))
			}
		}
		for before := range 8 {
			for behind := range 8 {
				got := settle(t, l, grown(in(before)...), grown(in(behind)...), no(5))
				same(t, "Settle", got, plainSettle(l, in(before), in(behind), no(5)))
			}
		}
	}
}

// TestP163Full: two trees of eight leaves, with nobody in both.
func TestP163Full(t *testing.T) {
	one, other := []int{511, 0, 9, 8, 100, 7, 64, 300}, []int{1, 2, 510, 4, 5, 6, 10, 301}
	l := []api.Box{box(3, 1), out(box(9, 2)), out(box(10, 2)), out(box(400, 1))}
	got := settle(t, l, grown(one...), grown(other...), no(5))
	same(t, "all other ones", got, plainSettle(l, one, other, no(5)))
	if len(got) != 18 {
		t.Error(len(got))
	}
	got = settle(t, l, grown(one...), grown(one...), no(5))
	same(t, "the same", got, plainSettle(l, one, one, no(5)))
}

func TestP163Blank(t *testing.T) {
	thin := without(grown(5, 6, 7, 8, 9, 10), 6, 7, 9)
	got := settle(t, nil, thin, without(thin, 5), no(2))
	same(t, "blank leaves", got, []api.Box{out(with(box(5, 0), no(2))), with(box(8, 0), no(2)), with(box(10, 0), no(2))})
	got = settle(t, nil, without(grown(0, 5), 0), grown(5), no(2))
	same(t, "not 0, of which the leaf is blank", got, []api.Box{with(box(5, 0), no(2))})
	nobody := []api.Box{box(2, 3), out(box(6, 1))}
	same(t, "no nodes", settle(t, nobody, api.Tree{}, api.Tree{}, no(2)), nobody)
	same(t, "no nodes, no boxes", settle(t, nil, api.Tree{}, api.Tree{}, no(2)), []api.Box{})
}

// TestP163Others: whoever is in no tree keeps its box as it was, another device of the user too.
func TestP163Others(t *testing.T) {
	l := []api.Box{box(0, 2), out(box(1, 1)), {Device: 2, Mail: anyMail(), Done: most}, box(3, 1), out(box(8, 4)), {Device: 511, Mail: anyMail()}}
	got := settle(t, l, grown(3), grown(4), anyMail()[2])
	want := []api.Box{l[0], l[1], l[2], out(with(l[3], anyMail()[2])), {Device: 4, Mail: anyMail()[2:3]}, l[4], l[5]}
	same(t, "others", got, want)
}

// anyMail is one of each kind, and some that are none, with something in each field, none of it sensible.
func anyMail() (l []api.Mail) {
	for kind := range api.MailKind(8) {
		n := int(kind) + 1
		at := api.Tree{Nodes: []api.Node{{Pub: -n, Unmerged: []int{n, n}}, {}, {Member: -n}}}
		c := api.Commit{Group: n, Epoch: -n, By: n, Adds: []api.Add{{Member: -n}}, Removes: []int{-n, n}, Next: at, Card: n}
		c.Seals, c.Joins = []api.Seal{{At: n}, {To: -n}}, []api.Join{{Member: n, Term: -n}}
		l = append(l, api.Mail{Kind: kind, Commit: c, Group: -n, Epoch: math.MinInt, Card: api.Card{User: -n, Epoch: -n, Pub: -n},
			Face: api.Face{Group: n, Epoch: -n, Tree: at, Pub: -n}, Note: api.Note{Group: n, Epoch: n, By: -n, N: -n, Term: -n}})
	}
	return append(l, api.Mail{}, api.Mail{Kind: 255})
}

func TestP163AnyMail(t *testing.T) {
	var l []api.Box
	for _, m := range anyMail() {
		l = settle(t, l, grown(6), grown(6, 2), m)
	}
	same(t, "Settle", l, []api.Box{{Device: 2, Mail: anyMail()}, {Device: 6, Mail: anyMail()}})
	// The same mail again is one more.
	l = settle(t, settle(t, nil, api.Tree{}, grown(2), no(1)), grown(2), grown(2), no(1))
	same(t, "twice", l, []api.Box{{Device: 2, Mail: []api.Mail{no(1), no(1)}}})
}

func TestP163Wrong(t *testing.T) {
	good := grown(3, 4)
	for what, l := range badBoxes() {
		unsettled(t, what, l, api.Tree{}, api.Tree{})
		unsettled(t, what, l, good, good)
		unsettled(t, what, l, grown(8), grown(9))
	}
	for _, wrong := range []map[string]api.Tree{badTrees(), strangers()} {
		for what, at := range wrong {
			for _, l := range [][]api.Box{nil, {box(0, 1), box(3, 1), out(box(4, 1))}} {
				unsettled(t, what, l, at, good)
				unsettled(t, what, l, good, at)
				unsettled(t, what, l, at, at)
				unsettled(t, what, l, at, api.Tree{})
				unsettled(t, what, l, api.Tree{}, at)
			}
		}
	}
	for device := 500; device < 520; device++ {
		_, e := roster.Settle(nil, grown(1), grown(device), no(1))
		_, f := roster.Settle(nil, grown(device), grown(1), no(1))
		if (e == api.OK) != (device < 512) || e != f {
			t.Error(device, e, f)
		}
	}
}

// card is one of a user, told apart by it.
func card(user int) api.Card { return api.Card{User: user, Epoch: user % 3, Pub: user + 1} }

// cards are so many, of the users 1, 4, 7 ..
func cards(many int) (l []api.Card) {
	for i := range many {
		l = append(l, card(1+3*i))
	}
	return l
}

// badCards are some that may not be, alone or with others: all have one of the user 3, or look so.
func badCards() map[string][]api.Card {
	return map[string][]api.Card{
		"no user -1":                 {{User: -1, Pub: 1}, card(3)},
		"no user 64":                 {card(3), {User: 64, Pub: 1}},
		"the least":                  {{User: math.MinInt, Pub: 1}, card(3)},
		"the greatest":               {card(3), {User: math.MaxInt, Pub: 1}},
		"2^32 more than a user":      {card(3), {User: 1<<32 + 4, Pub: 1}},
		"one twice":                  {card(3), card(3)},
		"one twice, last":            {card(2), card(3), card(3)},
		"falling":                    {card(4), card(3)},
		"falling behind rising ones": {card(1), card(3), card(2)},
		"falling ahead of rising":    {card(3), card(0), card(8), card(9)},
		"an epoch of -1":             {{User: 3, Epoch: -1, Pub: 1}},
		"an epoch of the least":      {card(3), {User: 4, Epoch: math.MinInt, Pub: 1}},
		"no key":                     {{User: 3, Epoch: 1}},
		"a key of -1":                {{User: 2, Pub: -1}, card(3)},
		"a key of the least":         {card(3), {User: 63, Pub: math.MinInt}},
	}
}

func TestP164Card(t *testing.T) {
	for many := range 22 {
		l := cards(many)
		for _, user := range append(numbers(), 6, 9, 10, 11, 12, 13, 60, 61) {
			got, ok := roster.Card(l, user)
			want := api.Card{}
			there := user >= 1 && user%3 == 1 && user/3 < many
			if there {
				want = card(user)
			}
			if ok != there || got != want {
				t.Error(many, user, got, ok)
			}
		}
	}
	odd := []api.Card{{User: 0, Pub: 1}, {User: 3, Epoch: math.MaxInt, Pub: math.MaxInt}, {User: 63, Epoch: 0, Pub: 1}}
	for _, want := range odd {
		if got, ok := roster.Card(odd, want.User); !ok || got != want {
			t.Error(got, ok)
		}
	}
}

func TestP164CardWrong(t *testing.T) {
	for what, l := range badCards() {
		for _, user := range numbers() {
			if got, ok := roster.Card(l, user); ok || got != (api.Card{}) {
				t.Error(what, user, got, ok)
			}
		}
	}
}

func TestP164SetCard(t *testing.T) {
	for many := range 21 {
		l := cards(many)
		for user := range 64 {
			c := api.Card{User: user, Epoch: 900 + many, Pub: 800 + user}
			want := cards(many)
			if at := (user + 1) / 3; user%3 == 1 && at < many {
				want[at] = c
			} else {
				want = slices.Insert(want, min(at, many), c)
			}
			got := set(t, l, c)
			same(t, "SetCard", got, want)
			same(t, "once more", set(t, got, c), want)
			if back, ok := roster.Card(got, user); !ok || back != c {
				t.Error(user, back, ok)
			}
		}
	}
}

// TestP164Older: a card takes the place of its user's, whatever their epochs are.
func TestP164Older(t *testing.T) {
	l := set(t, []api.Card{card(1), card(9)}, api.Card{User: 5, Epoch: 7, Pub: 3})
	for _, c := range []api.Card{{User: 5, Epoch: 6, Pub: 4}, {User: 5, Epoch: 0, Pub: 1}, {User: 5, Epoch: math.MaxInt, Pub: math.MaxInt}} {
		l = set(t, l, c)
		same(t, "another one", l, []api.Card{card(1), c, card(9)})
	}
}

// TestP164All: each user can have one, in whatever order they come.
func TestP164All(t *testing.T) {
	var l []api.Card
	for i := range 64 {
		l = set(t, l, card(i*37%64))
	}
	if len(l) != 64 {
		t.Fatal(len(l))
	}
	for i := range l {
		same(t, "all", l[i], card(i))
	}
}

func TestP164SetCardWrong(t *testing.T) {
	wrong := []api.Card{{}, {User: 3}, {User: 3, Pub: -1}, {User: 3, Pub: math.MinInt}, {User: 3, Epoch: -1, Pub: 1}, {User: 3, Epoch: math.MinInt, Pub: 1}}
	for _, user := range numbers() {
		if user < 0 || user > 63 {
			wrong = append(wrong, api.Card{User: user, Pub: 1})
		}
	}
	for _, c := range wrong {
		unset(t, "alone", nil, c)
		unset(t, "among others", cards(4), c)
		unset(t, "in the place of a good one", []api.Card{card(0), card(3), card(63)}, c)
	}
	for what, l := range badCards() {
		for _, user := range []int{0, 1, 2, 3, 4, 5, 62, 63} {
			unset(t, what, l, card(user))
		}
		for _, c := range wrong {
			unset(t, what, l, c)
		}
	}
}

// TestP165Devices: behind Settle the Devices of a user whose devices are the members of behind are those that were not Out before.
func TestP165Devices(t *testing.T) {
	for user := 0; user < 64; user += 9 {
		for bits := 1; bits < 256; bits++ {
			var l []api.Box
			var behind, want []int
			for i := range 8 {
				device := 8*user + i
				in, gone := bits>>i&1 == 1, (bits*37+i*i)%3 == 0
				if !in {
					continue
				}
				behind = append(behind, device)
				if gone {
					l = append(l, out(box(device, 1)))
				} else {
					want = append(want, device)
				}
				if !gone && i%2 == 0 {
					l = append(l, box(device, 2))
				}
			}
			before := grown(behind[len(behind)/2:]...)
			got, e := roster.Devices(settle(t, l, before, grown(behind...), no(1)), user)
			same(t, "Devices", got, want)
			if e != api.OK {
				t.Fatal(e)
			}
		}
	}
}

func TestExamples(t *testing.T) {
	for _, x := range []struct {
		call    func(int) (int, api.Errno)
		n, want int
		e       api.Errno
	}{
		{roster.Home, 5, 1, api.OK},
		{roster.Home, 64, 0, api.ErrArg},
		{roster.GroupHome, 7, 3, api.OK},
		{roster.GroupHome, -1, 0, api.OK},
		{roster.GroupHome, -6, 1, api.OK},
		{roster.GroupHome, -65, 0, api.ErrArg},
		{roster.User, 17, 2, api.OK},
	} {
		if got, e := x.call(x.n); got != x.want || e != x.e {
			t.Error(x.n, got, e)
		}
	}
	m, n := no(1), no(2)
	l := settle(t, nil, api.Tree{}, grown(0, 1), m)
	same(t, "both", l, []api.Box{{Device: 0, Mail: []api.Mail{m}}, {Device: 1, Mail: []api.Mail{m}}})
	l = settle(t, l, grown(0, 1), grown(0), n)
	same(t, "0 alone", l, []api.Box{{Device: 0, Mail: []api.Mail{m, n}}, {Device: 1, Out: true, Mail: []api.Mail{m, n}}})
	for user, want := range [][]int{{0}, {}} {
		got, e := roster.Devices(l, user)
		same(t, "Devices", got, want)
		if e != api.OK {
			t.Error(e)
		}
	}
}
