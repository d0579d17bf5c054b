package prop

import (
	"slices"

	"fairway/api"
)

// The IDs, by the names that MQTT gives them.
const (
	payloadFormat     = 1
	messageExpiry     = 2
	contentType       = 3
	responseTopic     = 8
	correlationData   = 9
	subscriptionIdent = 11
	sessionExpiry     = 17
	assignedClient    = 18
	serverKeepAlive   = 19
	authMethod        = 21
	authData          = 22
	requestProblem    = 23
	willDelay         = 24
	requestResponse   = 25
	responseInfo      = 26
	serverReference   = 28
	reasonString      = 31
	receiveMaximum    = 33
	aliasMaximum      = 34
	topicAlias        = 35
	maximumQoS        = 36
	retainAvailable   = 37
	userProperty      = 38
	maximumPacket     = 39
	wildcardAvailable = 40
	identAvailable    = 41
	sharedAvailable   = 42
)

const will = 0 // the place that is no kind of packets

// isPlace tells whether there is such a place.
func isPlace(place int) bool {
	return place >= will && place <= api.Auth
}

// mayStand tells whether a property of that ID may stand at a place.
func mayStand(place, id int) bool {
	return slices.Contains(idsAt(place), id)
}

// idsAt tells the IDs that may stand at a place.
func idsAt(place int) []int {
	switch place {
	case will:
		return []int{payloadFormat, messageExpiry, contentType, responseTopic, correlationData, willDelay, userProperty}
	case api.Connect:
		return []int{
			sessionExpiry, authMethod, authData, requestProblem, requestResponse,
			receiveMaximum, aliasMaximum, userProperty, maximumPacket,
		}
	case api.ConnAck:
		return []int{
			sessionExpiry, assignedClient, serverKeepAlive, authMethod, authData, responseInfo,
			serverReference, reasonString, receiveMaximum, aliasMaximum, maximumQoS, retainAvailable,
			userProperty, maximumPacket, wildcardAvailable, identAvailable, sharedAvailable,
		}
	case api.Publish:
		return []int{
			payloadFormat, messageExpiry, contentType, responseTopic, correlationData,
			subscriptionIdent, topicAlias, userProperty,
		}
	case api.PubAck, api.PubRec, api.PubRel, api.PubComp, api.SubAck, api.UnsubAck:
		return []int{reasonString, userProperty}
	case api.Subscribe:
		return []int{subscriptionIdent, userProperty}
	case api.Unsubscribe:
		return []int{userProperty}
	case api.Disconnect:
		return []int{sessionExpiry, serverReference, reasonString, userProperty}
	case api.Auth:
		return []int{authMethod, authData, reasonString, userProperty}
	}
	return nil
}

// mayRepeat tells whether a property of that ID may stand more than once at a place.
func mayRepeat(place, id int) bool {
	return id == userProperty || id == subscriptionIdent && place == api.Publish
}

// mayHave tells whether a property of that ID may have that number, as far as the number's bytes leave it open.
func mayHave(id, n int) bool {
	switch id {
	case subscriptionIdent, receiveMaximum, topicAlias, maximumPacket:
		return n != 0
	}
	kind, _ := Kind(id)
	return kind != oneByte || n == 0 || n == 1
}
