package may

import "phratry/api"

const (
	users         = api.MaxServers * api.MaxUsers
	conversations = api.MaxServers * api.MaxGroups
	devices       = users * api.MaxDevices
)

// User: may a user have that number?
func User(n int) bool {
	return n >= 0 && n < users
}

// Device: may a device?
func Device(n int) bool {
	return n >= 0 && n < devices
}

// Conversation: may a conversation?
func Conversation(n int) bool {
	return n >= 0 && n < conversations
}
