package may_test

import (
	"math"
	"testing"

	"phratry/api"
	"phratry/may"
)

const most = 1 << 40

// edges are numbers about all bounds of the chapter.
func edges() []int {
	return []int{math.MinInt, -most, -1 << 32, -2, -1, 0, 1, 2, 3, 4, 5, 1 << 32, 1<<32 + 1, most - 1, most, most + 1, math.MaxInt}
}

func TestServer(t *testing.T) {
	for _, n := range edges() {
		if may.Server(n) != (n == 0 || n == 1 || n == 2 || n == 3) {
			t.Error(n)
		}
	}
}

// TestNumbers: users, devices and conversations about their bounds.
func TestNumbers(t *testing.T) {
	for _, n := range append(edges(), 62, 63, 64, 65, 510, 511, 512, 513) {
		if may.User(n) != (n >= 0 && n <= 63) || may.Conversation(n) != (n >= 0 && n <= 63) || may.Device(n) != (n >= 0 && n <= 511) {
			t.Error(n)
		}
	}
}

func TestFeed(t *testing.T) {
	for kind := range 256 {
		f := api.Feed{Kind: api.FeedKind(kind), To: math.MinInt, From: math.MaxInt}
		if may.Feed(f) != (kind >= 1 && kind <= 6) {
			t.Error(kind)
		}
	}
}

func TestPacket(t *testing.T) {
	for _, from := range edges() {
		for _, to := range edges() {
			for _, seq := range edges() {
				for kind := range api.FeedKind(9) {
					p := api.Packet{From: from, To: to, Seq: seq, Feed: api.Feed{Kind: kind}}
					ends := from >= 0 && from < 4 && to >= 0 && to < 4
					if may.Packet(p) != (ends && seq >= 0 && seq <= most-1 && kind >= 1 && kind <= 6) {
						t.Error(from, to, seq, kind)
					}
					p.Ack = true
					if may.Packet(p) != (ends && seq >= 0 && seq <= most) {
						t.Error("Ack", from, to, seq, kind)
					}
				}
			}
		}
	}
}
