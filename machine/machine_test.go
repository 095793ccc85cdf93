package machine_test

import (
	"reflect"
	"slices"
	"testing"

	"warder/api"
	"warder/machine"
	"warder/request"
)

func config() api.Config {
	return api.Config{Creds: []api.Cred{{UID: 1}, {UID: 2, Proc: 1}, {UID: 1, Proc: 2}}, Keys: 20, Nodes: 100, Extents: 60, Count: 100, Bytes: 5000}
}

func ask(t *testing.T, task int, draw uint64, c api.Call) api.Request {
	t.Helper()
	b, e := request.Bytes(c)
	if e != api.OK {
		t.Fatal(c)
	}
	return api.Request{Task: task, Draw: draw, Bytes: string(b)}
}

func get() api.Call { return api.Call{Op: api.OpGet, Key: api.SpecSession, Create: true} }

func add(d string) api.Call {
	return api.Call{Op: api.OpAdd, Ring: api.SpecSession, Index: api.Index{Type: api.TypeUser, Desc: d}, Payload: d}
}

func step(task int) api.Act { return api.Act{Kind: api.ActStep, Task: task} }

func acts(n int, l ...api.Act) []api.Act {
	var all []api.Act
	for range n {
		all = append(all, l...)
	}
	return all
}

func TestNewDo(t *testing.T) { // P25.1
	bad := config()
	bad.Keys = 0
	for _, x := range []struct {
		c api.Config
		l []api.Request
		e api.Errno
	}{
		{bad, []api.Request{{Task: 9}}, api.ErrArg}, {config(), []api.Request{{Task: 3}}, api.ErrArg}, {config(), []api.Request{{}, {Task: -1}}, api.ErrArg}, {config(), make([]api.Request, api.MaxScript+1), api.ErrLong},
		{config(), append(make([]api.Request, api.MaxScript), api.Request{Task: 7}), api.ErrArg}, {config(), make([]api.Request, api.MaxScript), api.OK}, {config(), nil, api.OK},
	} {
		if m, e := machine.New(x.c, x.l...); e != x.e || (m == nil) != (e != api.OK) {
			t.Error(len(x.l), e)
		}
	}
	l := []api.Request{ask(t, 0, 0, get()), ask(t, 1, 5, get())}
	m, _ := machine.New(config(), l...)
	l[0].Draw = 77
	phases := []api.Phase{api.PhaseDecode, api.PhaseBegin, api.PhaseResolve, api.PhaseRecord, api.PhaseCommit}
	for i, p := range phases {
		x, e := m.Do(step(0))
		want := api.Event{Act: i, Kind: api.ActStep, Progress: api.Progress{Phase: p}}
		if i == 4 {
			want.Progress.Done, want.Progress.Response = true, api.Response{Value: 1}
		}
		if e != api.OK || !reflect.DeepEqual(x, want) {
			t.Error(x, e)
		}
	}
	if x, e := m.Do(step(0)); e != api.OK || !reflect.DeepEqual(x, api.Event{Act: 5, Kind: api.ActStep, Request: -1}) {
		t.Error("nothing is left", x, e)
	}
	for i, a := range []api.Act{{}, {Kind: 4}, {Kind: -1}, step(3), step(-1)} {
		if x, e := m.Do(a); e != api.ErrArg || !reflect.DeepEqual(x, api.Event{}) || m.Acts() != 6 {
			t.Error(i, x, e)
		}
	}
	if x, e := m.Do(api.Act{Kind: api.ActTick}); e != api.OK || !reflect.DeepEqual(x, api.Event{Act: 6, Time: 1, Kind: api.ActTick, Request: -1}) {
		t.Error(x, e)
	}
	if x, e := m.Do(step(1)); e != api.OK || !reflect.DeepEqual(x, api.Event{Act: 7, Time: 1, Kind: api.ActStep, Task: 1, Request: 1, Progress: api.Progress{Phase: api.PhaseDecode}}) {
		t.Error(x, e)
	}
	for _, n := range []*machine.Machine{nil, {}} {
		if x, e := n.Do(step(99)); e != api.ErrNil || !reflect.DeepEqual(x, api.Event{}) {
			t.Error(x, e)
		}
	}
}

func TestTickCollect(t *testing.T) { // P25.1
	timeout := func(d string, s api.Serial) api.Call { return api.Call{Op: api.OpTimeout, Key: s, Time: 1} }
	m, _ := machine.New(config(), ask(t, 0, 9, get()), ask(t, 0, 7, add("a")), ask(t, 0, 3, add("b")), ask(t, 0, 0, timeout("a", 8)), ask(t, 0, 0, timeout("b", 4)))
	for m.Left(0) > 0 || !m.Calm() {
		m.Do(step(0))
	}
	for i := 1; i < 7; i++ {
		x, _ := m.Do(api.Act{Kind: api.ActTick, Task: 0})
		if x.Time != uint64(i) || (i == 6) != slices.Equal(x.Died, []api.Serial{4, 8}) {
			t.Error(i, x)
		}
	}
	var kinds []api.CollectKind
	for range 9 {
		x, _ := m.Do(api.Act{Kind: api.ActCollect})
		if kinds = append(kinds, x.Collected.Kind); x.Request != -1 || x.Kind != api.ActCollect || x.Time != 6 || (x.Collected.Kind == api.CollectSweeps) != (x.Collected.Ring == 10) {
			t.Error(x)
		}
	}
	if !slices.Equal(kinds, []api.CollectKind{1, 2, 1, 2, 1, 0, 0, 0, 0}) {
		t.Error(kinds)
	}
	if l := m.Log(); l[len(l)-10].Died[0] != 4 {
		t.Error(l[len(l)-10])
	} else if l[len(l)-10].Died[0] = 99; m.Log()[len(l)-10].Died[0] != 4 {
		t.Error("shares memory")
	}
}

func TestLooks(t *testing.T) { // P25.2
	m, _ := machine.New(config(), ask(t, 0, 0, get()), ask(t, 1, 1, get()), ask(t, 0, 2, add("a")), api.Request{Task: 2, Bytes: "?"})
	if !m.Calm() || m.Left(0) != 2 || m.Left(1) != 1 || m.Left(9) != 0 || m.Left(-1) != 0 || m.Call(0) != nil || m.Acts() != 0 || len(m.Log())+len(m.History()) != 0 || m.Vault().Now() != 0 {
		t.Error("at first")
	}
	m.Do(step(1))
	m.Do(step(0))
	m.Do(step(2))
	want := []api.Done{{Request: 1, Task: 1, Ended: -1}, {Request: 0, Task: 0, Begun: 1, Ended: -1}, {Request: 3, Task: 2, Begun: 2, Ended: 2, Response: api.Response{Code: api.ErrArg}}}
	if !slices.Equal(m.History(), want) || m.Calm() || m.Left(0) != 1 || m.Left(1) != 0 || m.Call(2) != nil || m.Call(3) != nil || m.Call(-1) != nil || m.Call(0).Phase() != api.PhaseBegin || m.Call(0).Task() != 0 {
		t.Error(m.History())
	}
	m.Do(api.Act{Kind: api.ActTick})
	for range 4 {
		m.Do(step(0))
	}
	want[1].Ended, want[1].Time, want[1].Response = 7, 1, api.Response{Value: 1}
	h := m.History()
	if !slices.Equal(h, want) || m.Call(0) != nil || m.Acts() != 8 || len(m.Log()) != 8 {
		t.Error(h)
	}
	if h[0].Begun = 44; m.History()[0].Begun == 44 {
		t.Error("shares memory")
	}
	if _, is := m.Vault().Key(1); !is {
		t.Error("the vault, itself")
	}
	for _, n := range []*machine.Machine{nil, {}} {
		if n.Vault() != nil || n.Log() != nil || n.History() != nil || !n.Calm() || n.Left(0) != 0 || n.Call(0) != nil || n.Acts() != 0 {
			t.Error("nil")
		}
	}
}

func TestRun(t *testing.T) { // P25.3
	s := api.Script{Config: config(), Requests: []api.Request{ask(t, 0, 0, get())}, Acts: append(acts(3, step(0), api.Act{Kind: 9}, step(8)), acts(2, step(0))...)}
	m, e := machine.Run(s)
	if e != api.OK || m.Acts() != 5 || m.History()[0].Response != (api.Response{Value: 1}) {
		t.Error(e, m.Log())
	}
	bad := s
	bad.Config.Nodes = 0
	if m, e := machine.Run(bad); m != nil || e != api.ErrArg {
		t.Error(e)
	}
	bad = s
	bad.Acts = make([]api.Act, api.MaxScript+1)
	if m, e := machine.Run(bad); m != nil || e != api.ErrLong {
		t.Error(e)
	}
	bad.Requests = []api.Request{{Task: 5}}
	if m, e := machine.Run(bad); m != nil || e != api.ErrArg {
		t.Error(e)
	}
	bad = s
	bad.Requests = make([]api.Request, api.MaxScript+1)
	if m, e := machine.Run(bad); m != nil || e != api.ErrLong {
		t.Error(e)
	}
}

func TestSameEvents(t *testing.T) { // P25.4
	read := api.Call{Op: api.OpRead, Key: api.SpecSession}
	s := api.Script{Config: config()}
	for task := range 3 {
		for i := range 6 {
			c := []api.Call{get(), add("a"), add("b"), add("a"), read, {Op: api.OpRead, Key: api.Serial(i * task)}}[i]
			b, e := request.Bytes(c)
			if e != api.OK {
				b = []byte{byte(task)}
			}
			s.Requests = append(s.Requests, api.Request{Task: task, Draw: uint64(i), Bytes: string(b)})
		}
	}
	for i := range 400 {
		s.Acts = append(s.Acts, step(i*i/3%3))
		if i%9 == 0 {
			s.Acts = append(s.Acts, api.Act{Kind: api.ActCollect})
		}
	}
	m, _ := machine.Run(s)
	n, _ := machine.Run(s)
	if !reflect.DeepEqual(m.Log(), n.Log()) || !reflect.DeepEqual(m.History(), n.History()) {
		t.Error("not the same events")
	}
	ended := map[int]int{}
	for _, d := range m.History() {
		if d.Ended < d.Begun || d.Begun < ended[d.Task] || d.Response.Code == api.ErrStale {
			t.Error(d)
		}
		ended[d.Task] = d.Ended
	}
	if len(m.History()) != len(s.Requests) {
		t.Error("each is answered once")
	}
}

func TestLongScripts(t *testing.T) { // P25.3
	s := api.Script{Config: config(), Requests: make([]api.Request, api.MaxScript), Acts: make([]api.Act, api.MaxScript)}
	if m, e := machine.Run(s); e != api.OK || m.Acts() != 0 || m.Left(0) != api.MaxScript {
		t.Error(e)
	}
}
