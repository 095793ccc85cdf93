// Package whole tests the promises of the whole (P0.1 to P0.6) on scripts of all kinds of calls, made from seeds.
package whole

import (
	"math/rand"
	"strconv"

	"warder/api"
	"warder/machine"
	"warder/model"
	"warder/request"
)

func randomIndex(r *rand.Rand) api.Index {
	k := []api.KeyType{1, 1, 1, 2, 3, 4, 4, 4}[r.Intn(8)]
	return api.Index{Type: k, Desc: string("abcdef"[r.Intn(4)])}
}

func randomID(r *rand.Rand) api.Serial {
	if r.Intn(3) == 0 {
		return api.Serial(-1 - r.Intn(4))
	}
	return api.Serial(1 + r.Intn(12))
}

func randomCall(r *rand.Rand) api.Call {
	id := func() api.Serial { return randomID(r) }
	x := randomIndex(r)
	pay := string(make([]byte, 1+r.Intn(60)))
	if r.Intn(2) == 0 {
		pay = strconv.Itoa(r.Intn(1000000))
	}
	if x.Type == api.TypeRing {
		pay = ""
	}
	switch r.Intn(30) {
	case 0, 1, 2, 3, 4, 5, 6:
		return api.Call{Op: api.OpAdd, Ring: id(), Index: x, Payload: pay}
	case 7:
		return api.Call{Op: api.OpRequest, Index: x}
	case 8:
		return api.Call{Op: api.OpSearch, Ring: id(), Index: x}
	case 9, 10:
		return api.Call{Op: api.OpRead, Key: id()}
	case 11, 12:
		return api.Call{Op: api.OpUpdate, Key: id(), Payload: pay + "x"}
	case 13:
		return api.Call{Op: api.OpDescribe, Key: id()}
	case 14, 15, 16:
		return api.Call{Op: api.OpLink, Key: id(), Ring: id()}
	case 17, 18:
		return api.Call{Op: api.OpUnlink, Key: id(), Ring: id()}
	case 19, 20:
		return api.Call{Op: api.OpMove, Key: id(), Ring: id(), To: id()}
	case 21:
		return api.Call{Op: api.OpClear, Ring: id()}
	case 22:
		return api.Call{Op: api.OpSetPerm, Key: id(), Perm: api.Perm(r.Uint32()) & 0x3f3f3f3f}
	case 23:
		return api.Call{Op: api.OpChown, Key: id(), UID: r.Intn(3), GID: r.Intn(3)}
	case 24:
		return api.Call{Op: api.OpTimeout, Key: id(), Time: uint64(r.Intn(4))}
	case 25:
		if r.Intn(2) == 0 {
			return api.Call{Op: api.OpRevoke, Key: id()}
		}
		return api.Call{Op: api.OpRestrict, Ring: id(), Restrict: api.Restriction(1 + r.Intn(5))}
	case 26:
		return api.Call{Op: api.OpInvalidate, Key: id()}
	case 27:
		return api.Call{Op: api.OpJoin, Index: api.Index{Type: api.TypeRing, Desc: "s" + strconv.Itoa(r.Intn(3))}}
	}
	return api.Call{Op: api.OpGet, Key: api.Serial(-1 - r.Intn(4)), Create: r.Intn(5) > 0}
}

// hotScript is one in which many tasks change few keyrings at once, and serials come again soon.
func hotScript(seed int64) api.Script {
	r := rand.New(rand.NewSource(seed))
	c := api.Config{Keys: 12 + r.Intn(30), Nodes: 100 + r.Intn(300), Extents: 20 + r.Intn(100), Count: uint64(10 + r.Intn(20)), Bytes: uint64(300 + r.Intn(900))}
	tasks, procs, draws := 2+r.Intn(7), 1+r.Intn(2), 3+r.Intn(5)
	for range tasks {
		c.Creds = append(c.Creds, api.Cred{UID: 1 + r.Intn(2), Proc: r.Intn(procs)})
	}
	s := api.Script{Config: c}
	for i := range 100 {
		x := randomCall(r)
		for x.Op == api.OpJoin || x.Op == api.OpRestrict || x.Op == api.OpRevoke {
			x = randomCall(r)
		}
		if x.Op == api.OpSetPerm {
			x.Perm = 0x3f3f3f3f
		}
		for _, id := range []*api.Serial{&x.Key, &x.Ring, &x.To} {
			if *id > 0 {
				*id = api.Serial(1 + r.Intn(draws+2))
			} else if *id < 0 && x.Op != api.OpGet {
				*id = api.SpecSession
			}
		}
		if i < tasks {
			x = api.Call{Op: api.OpGet, Key: api.SpecSession, Create: true}
		}
		b, e := request.Bytes(x)
		if e != api.OK {
			b = []byte{99}
		}
		q := api.Request{Task: r.Intn(tasks), Draw: uint64(r.Intn(draws)), Bytes: string(b)}
		if i < tasks {
			q.Task = i
		}
		s.Requests = append(s.Requests, q)
	}
	long := 1 + r.Intn(6)
	at := 0
	for range 1500 {
		if r.Intn(long) == 0 {
			at = r.Intn(tasks)
		}
		a := api.Act{Kind: api.ActStep, Task: at}
		switch r.Intn(60) {
		case 0:
			a = api.Act{Kind: api.ActTick}
		case 1, 2, 3, 4, 5, 6, 7:
			a = api.Act{Kind: api.ActCollect}
		}
		s.Acts = append(s.Acts, a)
	}
	return s
}

func randomScript(seed int64) api.Script {
	if seed%3 == 0 {
		return hotScript(seed)
	}
	r := rand.New(rand.NewSource(seed))
	c := api.Config{Keys: 3 + r.Intn(20), Nodes: 10 + r.Intn(80), Extents: 2 + r.Intn(40), Count: uint64(2 + r.Intn(14)), Bytes: uint64(60 + r.Intn(900))}
	if r.Intn(3) == 0 {
		c.Keys, c.Nodes, c.Extents, c.Count, c.Bytes = 30, 512, 512, 30, 5000
	}
	tasks := 1 + r.Intn(4)
	near := 1 + r.Intn(3)
	for range tasks {
		c.Creds = append(c.Creds, api.Cred{UID: r.Intn(near), GID: r.Intn(near), Proc: r.Intn(near)})
	}
	s := api.Script{Config: c}
	many := 20 + r.Intn(60)
	for i := range many {
		x := randomCall(r)
		for i < many/3 && x.Op != api.OpAdd && x.Op != api.OpGet {
			x = randomCall(r)
		}
		if near == 1 && x.Op == api.OpAdd && r.Intn(2) == 0 {
			x.Index, x.Payload = api.Index{Type: api.TypeRing, Desc: "r" + strconv.Itoa(r.Intn(9))}, ""
		}
		if i < tasks {
			x = api.Call{Op: api.OpGet, Key: -3, Create: true}
		}
		b, e := request.Bytes(x)
		if e != api.OK || r.Intn(40) == 0 {
			b = []byte{byte(r.Intn(20)), 1, 2}
		}
		s.Requests = append(s.Requests, api.Request{Task: r.Intn(tasks), Draw: uint64(r.Intn(12)), Bytes: string(b)})
		if i < tasks {
			s.Requests[i].Task = i
		}
	}
	ticks, sweeps := r.Intn(40), 1+r.Intn(6)
	at := 0
	for range 300 + r.Intn(600) {
		if r.Intn(3) == 0 {
			at = r.Intn(tasks)
		}
		a := api.Act{Kind: api.ActStep, Task: at}
		if r.Intn(40) < 1 && ticks > 10 {
			a = api.Act{Kind: api.ActTick}
		} else if r.Intn(8) < sweeps-3 {
			a = api.Act{Kind: api.ActCollect}
		}
		s.Acts = append(s.Acts, a)
	}
	return s
}

// plain is what a vault's view has in common with a model's.
func plain(m *machine.Machine) []api.KeyView {
	var l []api.KeyView
	for _, k := range m.Vault().View().Keys {
		if k.Record.Dead {
			continue
		}
		k.Record.In, k.Record.Ver, k.Record.Content = 0, 0, 0
		var links []api.Serial
		for _, s := range k.Links {
			if _, is := m.Vault().Key(s); is {
				links = append(links, s)
			}
		}
		k.Links = links
		l = append(l, k)
	}
	return l
}

// follow lets a model do what an event answered, or tick with it.
func follow(s api.Script, x *model.Model, e api.Event) []api.Serial {
	if e.Kind == api.ActTick {
		return x.Tick()
	}
	if r := e.Progress.Response; e.Progress.Done && r.Code != api.ErrFull {
		q := s.Requests[e.Request]
		if c, f := request.Of([]byte(q.Bytes)); f == api.OK && r.Code == api.OK && (c.Op == api.OpAdd || c.Op == api.OpGet || c.Op == api.OpJoin) {
			q.Draw = uint64(r.Value - 1)
		}
		x.Request(q.Task, []byte(q.Bytes), q.Draw)
	}
	return nil
}
