package pack

import (
	"strings"

	"fairway/api"
	"fairway/prop"
	"fairway/vbi"
)

// The parts of a packet, by how they are written. A string is one too, written as it is.
type (
	octet  int    // a byte
	short  int    // two bytes
	number int    // two bytes, not 0
	words  string // a text, its length ahead
	sized  string // bytes, their length ahead
	list   struct {
		place int
		props []api.Prop
	}
)

const will = 0 // the place of properties that is no kind of packets

// partsOf tells the parts that stand behind a packet's length, in order.
func partsOf(p api.Packet) []any {
	switch p.Kind {
	case api.Connect:
		return connectParts(p)
	case api.ConnAck:
		return []any{octet(bit(p.Present, 1)), octet(p.Reason), list{p.Kind, p.Props}}
	case api.Publish:
		if p.QoS == 0 {
			return []any{words(p.Topic), list{p.Kind, p.Props}, p.Body}
		}
		return []any{words(p.Topic), number(p.ID), list{p.Kind, p.Props}, p.Body}
	case api.PubAck, api.PubRec, api.PubRel, api.PubComp:
		return append([]any{number(p.ID)}, reasonParts(p)...)
	case api.Subscribe, api.Unsubscribe:
		return append([]any{number(p.ID), list{p.Kind, p.Props}}, filterParts(p)...)
	case api.SubAck, api.UnsubAck:
		return append([]any{number(p.ID), list{p.Kind, p.Props}}, codeParts(p)...)
	case api.Disconnect, api.Auth:
		return reasonParts(p)
	}
	return nil
}

func connectParts(p api.Packet) []any {
	l := []any{
		words(protocolName), octet(protocolVersion), octet(connectFlags(p)), short(p.Keep),
		list{p.Kind, p.Props}, words(p.Client),
	}
	if p.Will.Has {
		l = append(l, list{will, p.Will.Props}, words(p.Will.Topic), sized(p.Will.Body))
	}
	if p.HasUser {
		l = append(l, words(p.User))
	}
	if p.HasPass {
		l = append(l, sized(p.Pass))
	}
	return l
}

// reasonParts tells the reason and the properties that end a packet: as few of them as say all.
func reasonParts(p api.Packet) []any {
	if len(p.Props) > 0 {
		return []any{octet(p.Reason), list{p.Kind, p.Props}}
	}
	if p.Reason != 0 {
		return []any{octet(p.Reason)}
	}
	return nil
}

func filterParts(p api.Packet) []any {
	var l []any
	for _, f := range p.Filters {
		l = append(l, words(f.Topic))
		if p.Kind == api.Subscribe {
			l = append(l, octet(filterFlags(f)))
		}
	}
	return l
}

func codeParts(p api.Packet) []any {
	var l []any
	for _, c := range p.Codes {
		l = append(l, octet(c))
	}
	return l
}

// putAll tells the bytes of parts, one behind the other.
func putAll(l []any) (string, api.Errno) {
	var all strings.Builder
	for _, part := range l {
		s, e := put(part)
		if e != api.OK {
			return "", e
		}
		all.WriteString(s)
	}
	return all.String(), api.OK
}

// put tells the bytes of a part.
func put(part any) (string, api.Errno) {
	if n, ok := part.(octet); ok {
		return putOctet(int(n))
	}
	if n, ok := part.(short); ok {
		return vbi.Two(int(n))
	}
	if n, ok := part.(number); ok {
		return putNumber(int(n))
	}
	if s, ok := part.(words); ok {
		return vbi.Text(string(s))
	}
	if s, ok := part.(sized); ok {
		return vbi.Bin(string(s))
	}
	if l, ok := part.(list); ok {
		return prop.Bytes(l.place, l.props)
	}
	return part.(string), api.OK
}

func putOctet(n int) (string, api.Errno) {
	if n < 0 || n > 255 {
		return "", api.ErrForm
	}
	return string([]byte{byte(n)}), api.OK
}

func putNumber(n int) (string, api.Errno) {
	if n == 0 {
		return "", api.ErrForm
	}
	return vbi.Two(n)
}
