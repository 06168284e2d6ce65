package roster

import "phratry/api"

const (
	users         = api.MaxServers * api.MaxUsers
	conversations = api.MaxServers * api.MaxGroups
	devices       = users * api.MaxDevices
)

func isUser(n int) bool {
	return n >= 0 && n < users
}
