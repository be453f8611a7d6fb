package query

import "spoor/api"

// parts are what a kind of questions names, beside its Kind.
type parts struct {
	router, six, addr, from, to bool
}

// named answers the parts of a kind.
func named(kind api.AskKind) parts {
	switch kind {
	case api.AskVerdict, api.AskTrace:
		return parts{router: true, six: true, addr: true, from: true}
	case api.AskVerdicts:
		return parts{router: true, six: true, addr: true, from: true, to: true}
	case api.AskDiff:
		return parts{router: true, six: true, from: true, to: true}
	case api.AskFates:
		return parts{six: true, addr: true, from: true}
	}
	return parts{}
}

// only answers a question without what these parts are not.
func (p parts) only(a api.Ask) api.Ask {
	if !p.router {
		a.Router = 0
	}
	if !p.six {
		a.Six = false
	}
	if !p.addr {
		a.Addr = api.Addr{}
	}
	if !p.from {
		a.From = 0
	}
	if !p.to {
		a.To = 0
	}
	return a
}
