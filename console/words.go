package console

import (
	"strconv"
	"strings"

	"warder/api"
	"warder/perm"
	"warder/request"
	"warder/restrict"
	"warder/types"
)

const hexDigits = "0123456789abcdef"

// refuse leaves a command; nothing was done yet.
func refuse(e api.Errno) { panic(e) }

// need refuses what does not hold.
func need(holds bool, e api.Errno) {
	if !holds {
		refuse(e)
	}
}

// words are those of a line, taken from the front.
type words struct {
	list []string
}

func (w *words) next() string {
	need(len(w.list) > 0, api.ErrArg)
	s := w.list[0]
	w.list = w.list[1:]
	return s
}

// end refuses a line of more words.
func (w *words) end() { need(len(w.list) == 0, api.ErrArg) }

func (w *words) between(low, high int) int {
	s := w.next()
	n, e := strconv.ParseUint(s, 10, 64)
	need(e == nil && n <= maxNumber && strconv.FormatUint(n, 10) == s, api.ErrArg)
	need(int(n) >= low && int(n) <= high, api.ErrArg)
	return int(n)
}

func (w *words) upTo(high int) int { return w.between(0, high) }

// bytes are those of two digits each, or none.
func (w *words) bytes() string {
	s := w.next()
	if s == "-" {
		return ""
	}
	need(s != "" && len(s)%2 == 0, api.ErrArg)
	b := make([]byte, 0, len(s)/2)
	for i := 0; i < len(s); i += 2 {
		high, low := strings.IndexByte(hexDigits, s[i]), strings.IndexByte(hexDigits, s[i+1])
		need(high >= 0 && low >= 0, api.ErrArg)
		b = append(b, byte(high<<4|low))
	}
	return string(b)
}

// id is a serial, or a special keyring by its name.
func (w *words) id() api.Serial {
	need(len(w.list) > 0, api.ErrArg)
	spec := api.Serial(0)
	switch w.list[0] {
	case "@thread":
		spec = api.SpecThread
	case "@process":
		spec = api.SpecProcess
	case "@session":
		spec = api.SpecSession
	case "@user":
		spec = api.SpecUser
	default:
		return api.Serial(w.upTo(maxNumber))
	}
	w.next()
	return spec
}

func (w *words) index() api.Index {
	t, e := types.Of(w.next())
	need(e == api.OK, api.ErrArg)
	return api.Index{Type: t, Desc: w.next()}
}

func (w *words) mask() api.Perm {
	p, e := perm.OfText(w.next())
	need(e == api.OK, api.ErrArg)
	return p
}

func (w *words) restriction() api.Restriction {
	r, e := restrict.Of(w.next())
	need(e == api.OK, api.ErrArg)
	return r
}

func (w *words) yes() bool {
	s := w.next()
	need(s == "yes" || s == "no", api.ErrArg)
	return s == "yes"
}

// call is what an op's name and its words ask for.
func (w *words) call() api.Call {
	o, e := request.OfName(w.next())
	need(e == api.OK, api.ErrArg)
	c := api.Call{Op: o}
	switch o {
	case api.OpAdd:
		c.Ring, c.Index, c.Payload = w.id(), w.index(), w.bytes()
	case api.OpRequest:
		c.Index = w.index()
	case api.OpSearch:
		c.Ring, c.Index = w.id(), w.index()
	case api.OpRead, api.OpDescribe, api.OpRevoke, api.OpInvalidate:
		c.Key = w.id()
	case api.OpUpdate:
		c.Key, c.Payload = w.id(), w.bytes()
	case api.OpLink, api.OpUnlink:
		c.Key, c.Ring = w.id(), w.id()
	case api.OpMove:
		c.Key, c.Ring, c.To = w.id(), w.id(), w.id()
	case api.OpClear:
		c.Ring = w.id()
	case api.OpSetPerm:
		c.Key, c.Perm = w.id(), w.mask()
	case api.OpChown:
		c.Key, c.UID, c.GID = w.id(), w.upTo(maxNumber), w.upTo(maxNumber)
	case api.OpTimeout:
		c.Key, c.Time = w.id(), uint64(w.upTo(maxNumber))
	case api.OpRestrict:
		c.Ring, c.Restrict = w.id(), w.restriction()
	case api.OpGet:
		c.Key, c.Create = w.id(), w.yes()
	case api.OpJoin:
		c.Index = api.Index{Type: api.TypeRing, Desc: w.next()}
	}
	return c
}

// join puts parts together, one blank between each two.
func join(parts ...string) string { return strings.Join(parts, " ") }

func number[N ~int | ~uint64](n N) string {
	if n < 0 {
		return strconv.FormatInt(int64(n), 10)
	}
	return strconv.FormatUint(uint64(n), 10)
}

func serial(s api.Serial) string {
	if s == 0 {
		return "-"
	}
	return number(s)
}

func serials(l []api.Serial) string {
	if len(l) == 0 {
		return "-"
	}
	var parts []string
	for _, s := range l {
		parts = append(parts, number(s))
	}
	return strings.Join(parts, ",")
}

func hex(s string) string {
	if s == "" {
		return "-"
	}
	b := make([]byte, 0, 2*len(s))
	for i := range len(s) {
		b = append(b, hexDigits[s[i]>>4], hexDigits[s[i]&15])
	}
	return string(b)
}

func phase(p api.Phase) string {
	names := [...]string{
		api.PhaseDecode: "decode", api.PhaseBegin: "begin", api.PhaseResolve: "resolve", api.PhaseCells: "cells", api.PhasePossess: "possess",
		api.PhaseSearch: "search", api.PhaseBelow: "below", api.PhaseFind: "find", api.PhaseRead: "read", api.PhaseLock: "lock",
		api.PhaseRecord: "record", api.PhaseExtents: "extents", api.PhaseNodes: "nodes", api.PhaseCommit: "commit", api.PhaseOver: "over",
	}
	return names[p]
}

// event is an event's line.
func event(x api.Event) string {
	l := []string{number(x.Act), number(x.Time)}
	switch x.Kind {
	case api.ActStep:
		l = append(l, "step", number(x.Task))
		l = append(l, progress(x)...)
	case api.ActTick:
		l = append(l, "tick")
		for _, s := range x.Died {
			l = append(l, number(s))
		}
	case api.ActCollect:
		l = append(l, "collect")
		l = append(l, collected(x.Collected)...)
	}
	return join(l...)
}

func progress(x api.Event) []string {
	if x.Request < 0 {
		return []string{"-"}
	}
	p := x.Progress
	l := []string{number(x.Request), phase(p.Phase)}
	if p.Waits {
		l = append(l, "waits")
	}
	if p.Failed {
		l = append(l, "failed")
	}
	if p.Done {
		l = append(l, "done", number(p.Response.Code), number(p.Response.Value), hex(p.Response.Bytes))
	}
	return l
}

func collected(x api.Collected) []string {
	switch x.Kind {
	case api.CollectFrees:
		return []string{"frees"}
	case api.CollectSweeps:
		return []string{"sweeps", serial(x.Ring), serial(x.Key)}
	}
	return []string{"none"}
}
