package pack

import "fairway/api"

const (
	protocolName    = "MQTT"
	protocolVersion = 5
	maxQoS          = 2
	maxHandling     = 2
)

// The first byte: a kind, and flags, of which these are a Publish's.
const (
	kindUnit   = 16
	dupFlag    = 8
	qosUnit    = 2
	qosCount   = 4 // as many as two bits tell
	retainFlag = 1
)

// A Connect's flags.
const (
	cleanFlag      = 2
	willFlag       = 4
	willQoSUnit    = 8
	willRetainFlag = 32
	passFlag       = 64
	userFlag       = 128
)

// A filter's byte.
const (
	noLocalFlag  = 4
	asSentFlag   = 8
	handlingUnit = 16
)

// flagsOf tells the flags of a packet's first byte.
func flagsOf(p api.Packet) int {
	switch p.Kind {
	case api.PubRel, api.Subscribe, api.Unsubscribe:
		return 2 // MQTT keeps these bits for later, and wants them so
	}
	return bit(p.Dup, dupFlag) + qosUnit*p.QoS + bit(p.Retain, retainFlag)
}

func connectFlags(p api.Packet) int {
	w := p.Will
	return bit(p.Clean, cleanFlag) + bit(w.Has, willFlag) + willQoSUnit*w.QoS + bit(w.Retain, willRetainFlag) +
		bit(p.HasPass, passFlag) + bit(p.HasUser, userFlag)
}

func filterFlags(f api.Filter) int {
	return f.QoS + bit(f.NoLocal, noLocalFlag) + bit(f.AsSent, asSentFlag) + handlingUnit*f.Handling
}
