package pack

import "fairway/api"

// What a packet may have beside its kind: those that the same kinds have are one.
const (
	login   = 1 << iota // what a Connect alone has
	present             // Present
	message             // what a Publish alone has
	ident               // ID
	reason              // Reason
	codes               // Codes
	filters             // Filters
	props               // Props
)

// fieldsOf tells what a kind of packets has.
func fieldsOf(kind int) int {
	switch kind {
	case api.Connect:
		return login | props
	case api.ConnAck:
		return present | reason | props
	case api.Publish:
		return message | ident | props
	case api.PubAck, api.PubRec, api.PubRel, api.PubComp:
		return ident | reason | props
	case api.Subscribe, api.Unsubscribe:
		return ident | filters | props
	case api.SubAck, api.UnsubAck:
		return ident | codes | props
	case api.Disconnect, api.Auth:
		return reason | props
	}
	return 0
}

// filled tells what of a packet is neither 0 nor empty.
func filled(p api.Packet) int {
	asLogin := p.Client != "" || p.Clean || p.Keep != 0 || isFilled(p.Will) || p.HasUser || p.User != "" || p.HasPass || p.Pass != ""
	asMessage := p.Dup || p.QoS != 0 || p.Retain || p.Topic != "" || p.Body != ""
	return bit(asLogin, login) | bit(p.Present, present) | bit(asMessage, message) | bit(p.ID != 0, ident) |
		bit(p.Reason != 0, reason) | bit(len(p.Codes) > 0, codes) | bit(len(p.Filters) > 0, filters) | bit(len(p.Props) > 0, props)
}

func isFilled(w api.Will) bool {
	return w.Has || w.QoS != 0 || w.Retain || w.Topic != "" || w.Body != "" || len(w.Props) > 0
}

// bit tells a bit that stands for what is so.
func bit(so bool, n int) int {
	if so {
		return n
	}
	return 0
}

// mayBe tells whether a packet may be, as far as the bytes of its parts leave it open.
func mayBe(p api.Packet) bool {
	if p.Kind < api.Connect || p.Kind > api.Auth || filled(p)&^fieldsOf(p.Kind) != 0 {
		return false
	}
	switch p.Kind {
	case api.Connect:
		return mayLogIn(p)
	case api.Publish:
		return maySend(p) && (p.QoS > 0 || p.ID == 0) && len(p.Body) <= api.MaxBody
	case api.Subscribe, api.Unsubscribe:
		return mayAsk(p)
	case api.SubAck, api.UnsubAck:
		return isCount(len(p.Codes))
	}
	return true
}

func mayLogIn(p api.Packet) bool {
	if p.User != "" && !p.HasUser || p.Pass != "" && !p.HasPass {
		return false
	}
	if !p.Will.Has {
		return !isFilled(p.Will)
	}
	return isQoS(p.Will.QoS) && p.Will.Topic != ""
}

// maySend tells whether a packet's first byte may say how it is sent.
func maySend(p api.Packet) bool {
	return isQoS(p.QoS) && (p.QoS > 0 || !p.Dup)
}

func mayAsk(p api.Packet) bool {
	for _, f := range p.Filters {
		onlyTopic := f == api.Filter{Topic: f.Topic}
		if !mayFilter(f) || p.Kind == api.Unsubscribe && !onlyTopic {
			return false
		}
	}
	return isCount(len(p.Filters))
}

func mayFilter(f api.Filter) bool {
	return isQoS(f.QoS) && f.Handling >= 0 && f.Handling <= maxHandling
}

func isQoS(n int) bool {
	return n >= 0 && n <= maxQoS
}

// isCount tells whether there may be so many filters, or codes of filters.
func isCount(n int) bool {
	return n >= 1 && n <= api.MaxFilters
}
