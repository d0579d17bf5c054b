package pack

import (
	"strings"

	"fairway/api"
	"fairway/prop"
	"fairway/vbi"
)

// reader takes parts from the front of what is left of a packet, up to its first error.
type reader struct {
	rest string
	e    api.Errno
}

// fail keeps an error, if it is the first one. Nothing is left then: what is taken behind it is none, and ends.
func (r *reader) fail(e api.Errno) {
	if r.e == api.OK {
		r.e = e
	}
	r.rest = ""
}

// next tells the part that take finds in front.
func next[T any](r *reader, take func(s string) (T, int, api.Errno)) T {
	v, k, e := take(r.rest)
	if e == api.ErrCut { // how many bytes there are was said ahead of them: more will not come
		e = api.ErrBad
	}
	if e != api.OK {
		r.fail(e)
		return v
	}
	r.rest = r.rest[k:]
	return v
}

// many tells all that is left, one by one: of filters or codes, of which there are some, and not too many.
func many[T any](r *reader, one func() T) []T {
	var l []T
	for r.rest != "" {
		if len(l) == api.MaxFilters { // asked ahead of it: what is wrong within one too many stands further back
			r.fail(api.ErrLimit)
			break
		}
		l = append(l, one())
	}
	if len(l) == 0 {
		r.fail(api.ErrProto)
	}
	return l
}

// takeAll tells the packet that has a first byte, and behind its length just s.
func takeAll(first int, s string) (api.Packet, api.Errno) {
	r := &reader{rest: s}
	p := r.sent(first)
	r.parts(&p)
	if r.rest != "" {
		r.fail(api.ErrBad)
	}
	return p, r.e
}

// sent tells what the first byte says of a packet.
func (r *reader) sent(first int) api.Packet {
	p := api.Packet{Kind: first / kindUnit}
	flags := first % kindUnit
	if p.Kind == api.Publish {
		p.Dup = flags&dupFlag != 0
		p.QoS = flags / qosUnit % qosCount
		p.Retain = flags&retainFlag != 0
	}
	if p.Kind == 0 || !maySend(p) || flagsOf(p) != flags {
		r.fail(api.ErrBad)
	}
	return p
}

// parts takes what stands behind a packet's length.
func (r *reader) parts(p *api.Packet) {
	switch p.Kind {
	case api.Connect:
		r.connect(p)
	case api.ConnAck:
		p.Present = r.yes()
		p.Reason = r.octet()
		p.Props = r.props(p.Kind)
	case api.Publish:
		r.publish(p)
	case api.PubAck, api.PubRec, api.PubRel, api.PubComp:
		p.ID = next(r, takeNumber)
		r.reason(p)
	case api.Subscribe:
		p.ID = next(r, takeNumber)
		p.Props = r.props(p.Kind)
		p.Filters = many(r, r.filter)
	case api.Unsubscribe:
		p.ID = next(r, takeNumber)
		p.Props = r.props(p.Kind)
		p.Filters = many(r, r.topic)
	case api.SubAck, api.UnsubAck:
		p.ID = next(r, takeNumber)
		p.Props = r.props(p.Kind)
		p.Codes = many(r, r.octet)
	case api.Disconnect, api.Auth:
		r.reason(p)
	}
}

func (r *reader) connect(p *api.Packet) {
	r.protocol()
	r.connectFlags(p)
	p.Keep = next(r, takeShort)
	p.Props = r.props(p.Kind)
	p.Client = r.words()
	if p.Will.Has {
		p.Will.Props = r.props(will)
		p.Will.Topic = r.words()
		if p.Will.Topic == "" {
			r.fail(api.ErrBad)
		}
		p.Will.Body = next(r, vbi.TakeBin)
	}
	if p.HasUser {
		p.User = r.words()
	}
	if p.HasPass {
		p.Pass = next(r, vbi.TakeBin)
	}
}

func (r *reader) protocol() {
	if r.words() != protocolName {
		r.fail(api.ErrProto)
	}
	if r.octet() != protocolVersion {
		r.fail(api.ErrProto)
	}
}

func (r *reader) connectFlags(p *api.Packet) {
	n := r.octet()
	p.Clean = n&cleanFlag != 0
	p.HasPass = n&passFlag != 0
	p.HasUser = n&userFlag != 0
	if n&willFlag != 0 {
		p.Will = api.Will{Has: true, QoS: n / willQoSUnit % qosCount, Retain: n&willRetainFlag != 0}
	}
	// A flag that means nothing, or tells of a will that is none, would not be written again.
	if !isQoS(p.Will.QoS) || connectFlags(*p) != n {
		r.fail(api.ErrBad)
	}
}

func (r *reader) publish(p *api.Packet) {
	p.Topic = r.words()
	if p.QoS > 0 {
		p.ID = next(r, takeNumber)
	}
	p.Props = r.props(p.Kind)
	if len(r.rest) > api.MaxBody {
		r.fail(api.ErrLimit)
	}
	p.Body = strings.Clone(r.rest)
	r.rest = ""
}

// reason takes the reason and the properties that may end a packet.
func (r *reader) reason(p *api.Packet) {
	if r.rest != "" {
		p.Reason = r.octet()
	}
	if r.rest != "" {
		p.Props = r.props(p.Kind)
	}
}

func (r *reader) filter() api.Filter {
	f := r.topic()
	n := r.octet()
	f.QoS = n % qosCount
	f.NoLocal = n&noLocalFlag != 0
	f.AsSent = n&asSentFlag != 0
	f.Handling = n / handlingUnit
	if !mayFilter(f) {
		r.fail(api.ErrProto)
	}
	return f
}

func (r *reader) topic() api.Filter {
	return api.Filter{Topic: r.words()}
}

func (r *reader) words() string {
	return next(r, vbi.TakeText)
}

func (r *reader) props(place int) []api.Prop {
	return next(r, func(s string) ([]api.Prop, int, api.Errno) { return prop.Take(place, s) })
}

func (r *reader) octet() int {
	return next(r, takeOctet)
}

// yes takes a byte that is 0 or 1.
func (r *reader) yes() bool {
	n := r.octet()
	if n > 1 {
		r.fail(api.ErrBad)
	}
	return n == 1
}

func takeOctet(s string) (n int, k int, e api.Errno) {
	if s == "" {
		return 0, 0, api.ErrCut
	}
	return int(s[0]), 1, api.OK
}

func takeShort(s string) (n int, k int, e api.Errno) {
	n, e = vbi.TakeTwo(s)
	return n, 2, e
}

// takeNumber takes two bytes that are not 0.
func takeNumber(s string) (n int, k int, e api.Errno) {
	n, k, e = takeShort(s)
	if e == api.OK && n == 0 {
		e = api.ErrBad
	}
	return n, k, e
}
