package name

import "fairway/api"

const (
	plus = '+'
	hash = '#'
)

// What a filter's level asks of a topic's levels. One that is no wildcard asks for itself, as a text.
type (
	one  struct{} // +: one level, whatever it is
	rest struct{} // #: all levels from there on
)

// ask tells what a filter's level asks for: a text, one, or rest; ErrBad, where a wildcard is but a part of it.
func ask(level string) any {
	switch level {
	case string(plus):
		return one{}
	case string(hash):
		return rest{}
	}
	if !isPlain(level) {
		return api.ErrBad
	}
	return level
}

// isPlain tells whether no wildcard stands in s.
func isPlain(s string) bool {
	for _, r := range s {
		if r == plus || r == hash {
			return false
		}
	}
	return true
}

// isWild tells whether a level asks for others than itself.
func isWild(asked any) bool {
	_, ok := asked.(string)
	return !ok
}

// mayAsk tells whether levels may be a filter's.
func mayAsk(levels []string) bool {
	last := len(levels) - 1
	for i, level := range levels {
		asked := ask(level)
		if _, bad := asked.(api.Errno); bad {
			return false
		}
		if _, all := asked.(rest); all && i < last {
			return false
		}
	}
	return true
}

// meets tells whether a topic's levels are such as a filter's levels ask for.
func meets(asking, levels []string) bool {
	for i, level := range asking {
		asked := ask(level)
		if _, all := asked.(rest); all { // none at all will do
			return true
		}
		if i == len(levels) || !isMet(asked, levels[i]) {
			return false
		}
	}
	return len(asking) == len(levels)
}

// isMet tells whether a topic's level is such as one of a filter that may be, but no #, asks for.
func isMet(asked any, level string) bool {
	if _, ok := asked.(one); ok {
		return true
	}
	return asked.(string) == level
}
