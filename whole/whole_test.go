package whole

import (
	"os"
	"reflect"
	"slices"
	"strconv"
	"strings"
	"testing"

	"warder/api"
	"warder/drain"
	"warder/flow"
	"warder/linear"
	"warder/machine"
	"warder/model"
	"warder/request"
	"warder/sound"
)

// seeds is how many scripts are tried; FUZZ asks for more.
func seeds(n int) int {
	if s := os.Getenv("FUZZ"); s != "" {
		n, _ = strconv.Atoi(s)
	}
	return n
}

// judged: is all that was answered explained, and does the vault have what the model has (P0.1, P0.3, P0.5)?
func judged(t *testing.T, seed int, s api.Script, m *machine.Machine, x *model.Model) {
	t.Helper()
	h := m.History()
	if at, e := linear.Explains(s.Config, s.Requests, h, linear.ByEnds(h)); at != -1 || e != api.OK {
		d := h[linear.ByEnds(h)[at]]
		t.Fatal(seed, "not explained", at, e, linear.Text(d), s.Requests[d.Request])
	}
	for _, d := range h {
		if d.Response.Code == api.ErrStale || d.Response.Code == api.ErrState || d.Response.Code == api.ErrBytes {
			t.Fatal(seed, "a handle that was followed is stale", d)
		}
	}
	if !reflect.DeepEqual(x.View().Keys, plain(m)) || !reflect.DeepEqual(x.View().Accounts, m.Vault().View().Accounts) {
		t.Fatal(seed, "not what the model has", x.View(), plain(m))
	}
	if l := sound.Check(m.Vault(), m.Calm()); len(l) > 0 {
		t.Fatal(seed, l)
	}
}

func TestScripts(t *testing.T) { // P0.1, P0.3, P0.4, P0.5, P0.6
	codes := map[api.Errno]int{}
	failed, most := 0, 0
	for seed := 1; seed <= seeds(150); seed++ {
		s := randomScript(int64(seed))
		m, e := machine.New(s.Config, s.Requests...)
		if e != api.OK {
			t.Fatal(e)
		}
		plainly, _ := model.New(s.Config)
		for i, a := range s.Acts {
			x, _ := m.Do(a)
			died := follow(s, plainly, x)
			if slices.Sort(died); !slices.Equal(died, x.Died) {
				t.Fatal(seed, i, "who died", died, x.Died)
			}
			if x.Progress.Failed {
				failed++
				most = max(most, m.Call(a.Task).Tries())
			}
			if l := sound.Check(m.Vault(), m.Calm()); len(l) > 0 {
				t.Fatal(seed, i, l)
			}
		}
		judged(t, seed, s, m, plainly)
		acts := m.Acts()
		drain.Drain(m, drain.Bound(s.Config))
		for _, x := range m.Log()[acts:] {
			follow(s, plainly, x)
		}
		judged(t, seed, s, m, plainly)
		if !drain.Full(m) && !drain.Drained(m) {
			t.Fatal(seed, "not drained", drain.Of(m))
		}
		for _, d := range m.History() {
			codes[d.Response.Code]++
		}
	}
	t.Log(codes, "failed", failed, "most", most)
}

func TestTwins(t *testing.T) { // P0.2
	learned := 0
	for seed := 1; seed <= seeds(60); seed++ {
		a := randomScript(int64(seed))
		for uid := range 3 {
			b := a
			b.Requests = nil
			for _, r := range a.Requests {
				c, e := request.Of([]byte(r.Bytes))
				if e == api.OK && a.Config.Creds[r.Task].UID == uid {
					c.Payload = strings.Repeat("?", len(c.Payload))
					x, _ := request.Bytes(c)
					r.Bytes = string(x)
				}
				b.Requests = append(b.Requests, r)
			}
			f, e := flow.Check(a, b, uid)
			if e != api.OK || !f.Same {
				t.Fatal(seed, uid, f, e)
			}
			if f.First >= 0 {
				learned++
			}
			m, _ := machine.Run(a)
			n, _ := machine.Run(b)
			l, k := m.History(), n.History()
			for i := range l {
				l[i].Response.Bytes, k[i].Response.Bytes = "", ""
			}
			if !reflect.DeepEqual(l, k) {
				t.Fatal(seed, "beside Bytes all is the same")
			}
		}
	}
	t.Log("answered otherwise:", learned)
}
