package console_test

import (
	"slices"
	"strconv"
	"strings"
	"testing"

	"warder/api"
	"warder/console"
	"warder/request"
)

// says tells each line, and what is to be answered ("|" between lines, "" where there is none).
func says(t *testing.T, c *console.Console, l ...[2]string) {
	t.Helper()
	for _, x := range l {
		var want []string
		if x[1] != "" {
			want = strings.Split(x[1], "|")
		}
		if got := c.Say(x[0]); !slices.Equal(got, want) {
			t.Errorf("%s: %q", x[0], got)
		}
	}
}

func build(t *testing.T, lines ...string) *console.Console {
	t.Helper()
	c := console.New()
	for _, l := range lines {
		for _, a := range c.Say(l) {
			if strings.HasPrefix(a, "error") {
				t.Fatal(l, a)
			}
		}
	}
	return c
}

func TestExamples(t *testing.T) { // P32.1
	says(t, console.New(), [][2]string{
		{"task 1 0 0", "ok"}, {"ask 0 0 get @session yes", "ok"}, {"begin", "ok"},
		{"step 0 5", "0 0 step 0 0 decode|1 0 step 0 0 begin|2 0 step 0 0 resolve|3 0 step 0 0 record|4 0 step 0 0 commit done 0 1 -"},
		{"keys", "1 keyring _ses 1 0 3f030000 live 0 any 0 1 0 -"}, {"cells 0", "- - 1 -"}, {"judge", "fine"},
		{"step 0 2", "5 0 step 0 -|6 0 step 0 -"}, {"tick 1", "7 1 tick"}, {"collect 1", "8 1 collect none"}, {"cells 1", "- - - -"}, {"accounts", "1 1 21"}, {"free", "15 128 64 0"}, {"left", "0 0 0 0 0 0"}, {"drain 5", "turns 0"},
		{"history", "0 0 0-4 0 0 1 "},
		{"end", "ok"}, {"keys", "error 18"}, {"begin", "error 2"},
	}...)
}

func TestSay(t *testing.T) { // P32.1
	c := build(t, "task 1 2 0", "task 2 0 1", "set nodes 99", "set extents 9", "set count 8", "set bytes 200", "set keys 11",
		"ask 0 0 get @session yes", "ask 0 1 add @session user a 00ff7a", "ask 0 2 add @session keyring r -", "ask 0 3 link 2 3", "ask 0 4 timeout 2 1", "ask 0 5 restrict 3 user", "ask 0 6 describe 2",
		"ask 1 7 read 2", "raw 1 8 6300", "ask 1 9 request user a", "begin")
	says(t, c, [][2]string{
		{"step 1 6", "0 0 step 1 7 decode|1 0 step 1 7 begin|2 0 step 1 7 resolve|3 0 step 1 7 commit done 4 0 -|4 0 step 1 8 decode done 2 0 -|5 0 step 1 9 decode"},
		{"left", "1 0 0 0 0 0"}, {"drain 9", "turns 4"}, {"judge", "fine"},
	}...)
	for range 3 {
		c.Say("step 0 20")
	}
	says(t, c, [][2]string{
		{"keys", "1 keyring _ses 1 2 3f030000 live 0 any 0 1 0 " + links(c, 1) + "|2 user a 1 2 3f030000 live 1 any 3 2 2 00ff7a|3 keyring r 1 2 3f030000 live 0 user 0 1 1 2"},
		{"accounts", "1 3 44"}, {"free", "8 98 8 0"}, {"history", strings.Join(c.Say("history"), "|")}, {"judge", "fine"},
		{"tick 1", "74 1 tick"}, {"tick 5", "75 2 tick|76 3 tick|77 4 tick|78 5 tick|79 6 tick 2"},
		{"collect 2", "80 6 collect frees|81 6 collect sweeps 1 2"}, {"collect 1", "82 6 collect frees"}, {"drain 9", "turns 2"}, {"left", "0 0 0 0 0 0"}, {"judge", "fine"},
	}...)
	if l := c.Say("history"); len(l) != 10 || l[0] != "7 1 0-3 0 4 0 " || l[9] != "6 0 "+strings.Fields(l[9])[2]+" 0 0 0 757365723b313b323b33663033303030303b61" {
		t.Errorf("%q", l)
	}
}

// links are as the console tells them; what they are is looked at by other layers' tests.
func links(c *console.Console, ring int) string {
	for _, l := range c.Say("keys") {
		if w := strings.Split(l, " "); w[0] == strconv.Itoa(ring) {
			return w[len(w)-1]
		}
	}
	return ""
}

func TestEventLines(t *testing.T) { // P32.1
	c := build(t, "task 0 0 0", "task 0 0 0", "ask 0 0 get @session yes", "ask 1 4 add @session user a 61", "ask 0 5 add @session user b 62", "begin", "step 0 5", "step 1 6")
	says(t, c, [][2]string{
		{"step 0 5", "11 0 step 0 2 decode|12 0 step 0 2 begin|13 0 step 0 2 resolve|14 0 step 0 2 find|15 0 step 0 2 lock waits"},
		{"step 1 3", "16 0 step 1 1 extents|17 0 step 1 1 nodes|18 0 step 1 1 commit done 0 5 -"},
		{"step 0 2", "19 0 step 0 2 lock failed|20 0 step 0 2 begin"},
		{"left", "1 0 0 1 0 0"}, {"judge", "fine"},
	}...)
}

func TestAsk(t *testing.T) { // P32.1
	asked, raw := build(t, "task 0 0 0"), build(t, "task 0 0 0")
	r, a := api.SpecSession, api.Index{Type: api.TypeUser, Desc: "a"}
	for l, x := range map[string]api.Call{
		"get @session yes": {Op: api.OpGet, Key: r, Create: true}, "get @thread no": {Op: api.OpGet, Key: api.SpecThread}, "join s": {Op: api.OpJoin, Index: api.Index{Type: api.TypeRing, Desc: "s"}},
		"add @session keyring r -": {Op: api.OpAdd, Ring: r, Index: api.Index{Type: api.TypeRing, Desc: "r"}}, "add 1 user a 00ff": {Op: api.OpAdd, Ring: 1, Index: a, Payload: "\x00\xff"}, "add 1 big b " + strings.Repeat("61", 256): {Op: api.OpAdd, Ring: 1, Index: api.Index{Type: api.TypeBig, Desc: "b"}, Payload: strings.Repeat("a", 256)},
		"request user a": {Op: api.OpRequest, Index: a}, "search @user logon x": {Op: api.OpSearch, Ring: api.SpecUser, Index: api.Index{Type: api.TypeLogon, Desc: "x"}}, "read @process": {Op: api.OpRead, Key: api.SpecProcess}, "update 1 61": {Op: api.OpUpdate, Key: 1, Payload: "a"},
		"describe 1073741824": {Op: api.OpDescribe, Key: api.MaxSerial}, "link 1 2": {Op: api.OpLink, Key: 1, Ring: 2}, "unlink 1 @session": {Op: api.OpUnlink, Key: 1, Ring: r}, "move 1 2 3": {Op: api.OpMove, Key: 1, Ring: 2, To: 3}, "clear 1": {Op: api.OpClear, Ring: 1},
		"setperm 1 3f3f3f3f": {Op: api.OpSetPerm, Key: 1, Perm: 0x3f3f3f3f}, "chown 1 15 0": {Op: api.OpChown, Key: 1, UID: 15}, "timeout 1 549755813888": {Op: api.OpTimeout, Key: 1, Time: 1 << 39}, "timeout 1 0": {Op: api.OpTimeout, Key: 1}, "revoke 1": {Op: api.OpRevoke, Key: 1}, "invalidate 1": {Op: api.OpInvalidate, Key: 1}, "restrict 1 none": {Op: api.OpRestrict, Ring: 1, Restrict: 5},
	} {
		b, e := request.Bytes(x)
		var digits string
		for _, n := range b {
			digits += "0123456789abcdef"[n>>4:][:1] + "0123456789abcdef"[n&15:][:1]
		}
		if e != api.OK {
			t.Error(x)
		}
		says(t, asked, [2]string{"ask 0 1099511627776 " + l, "ok"})
		says(t, raw, [2]string{"raw 0 1099511627776 " + digits, "ok"})
	}
	var answers [2][]string
	for i, c := range []*console.Console{asked, raw} {
		for _, l := range []string{"begin", "step 0 400", "keys", "history"} {
			answers[i] = append(answers[i], c.Say(l)...)
		}
	}
	if !slices.Equal(answers[0], answers[1]) || len(answers[0]) < 420 || strings.Contains(strings.Join(answers[0], "|"), "decode done 2") {
		t.Error("what is asked is not what is meant")
	}
	c := console.New()
	for _, l := range []string{
		"ask", "ask 0", "ask 0 0", "ask 0 0 none", "ask 0 0 add @session user a", "ask 0 0 add @session user a 61 62", "ask 0 0 add @session user a -", "ask 0 0 add @session user a 6", "ask 0 0 add @session user a 6G", "ask 0 0 add @session user a 6A", "ask 0 0 add @session user a; 61", "ask 0 0 add session user a 61", "ask 0 0 add -1 user a 61", "ask 0 0 add 0 user a 61", "ask 0 0 add 01 user a 61", "ask 0 0 add 1 users a 61", "ask 0 0 add 1 keyring a 61", "ask 0 0 read 1073741825", "ask 0 0 read", "ask 0 0 read 1 ", "ask 0 0  read 1", "ask 0 0 update 1 -",
		"ask 0 0 setperm 1 3f3f3f4f", "ask 0 0 setperm 1 3f", "ask 0 0 chown 1 16 0", "ask 0 0 chown 1 1", "ask 0 0 timeout 1 549755813889", "ask 0 0 restrict 1 any", "ask 0 0 restrict 1 keyring", "ask 0 0 get @user maybe", "ask 0 0 get @user", "ask 0 0 get 1 yes", "ask 0 0 get @none yes", "ask 0 0 join", "ask 0 0 join s s", "ask 0 0 join keyring s", "ask 00 0 read 1", "ask 0 1099511627777 read 1", "ask 0 -1 read 1", "ask +0 0 read 1", "ask x 0 read 1", "ask 0 18446744073709551616 read 1",
		"raw", "raw 0 0", "raw 0 0 6", "raw 0 0 zz", "raw 0 0 61 61", "raw 0 0 ", "", " ", "nothing", "Task 1 0 0", "task 1 0", "task 1 0 0 0", "task 16 0 0", "task 0 16 0", "task 0 0 8", "task a 0 0", "set", "set keys", "set keys x", "set key 1", "set keys 1 1", "set Keys 1", "set keys 1099511627777", "begin now", " begin", "begin ", "step 0", "step 0 0", "step 0 1001", "step 0 1 1", "tick 0", "tick 101", "tick", "collect 0", "collect 101", "drain 1001", "drain", "keys 1", "cells", "cells x", "accounts 1", "free 1", "left 1", "history 1", "judge 1", "end 1", "step\t0 1",
	} {
		if a := c.Say(l); !slices.Equal(a, []string{"error 2"}) {
			t.Errorf("%q: %q", l, a)
		}
	}
	says(t, c, [][2]string{{"begin", "error 2"}, {"task 0 0 0", "ok"}, {"begin", "ok"}, {"step 0 1", "0 0 step 0 -"}, {"free", "16 128 64 0"}}...)
}

func TestErrors(t *testing.T) { // P32.1
	for _, c := range []*console.Console{nil, {}} {
		says(t, c, [2]string{"nothing", "error 1"}, [2]string{"end", "error 1"})
	}
	c := console.New()
	for _, l := range []string{"step 0 1", "tick 1", "collect 1", "drain 0", "keys", "cells 0", "accounts", "free", "left", "history", "judge"} {
		says(t, c, [2]string{l, "error 18"})
	}
	says(t, c, [][2]string{{"end", "ok"}, {"set keys 0", "ok"}, {"task 1 1 1", "ok"}, {"begin", "error 2"}, {"set keys 9", "ok"}, {"ask 1 0 read 1", "ok"}, {"begin", "error 2"}, {"task 1 1 1", "ok"}, {"begin", "ok"}}...)
	for _, l := range []string{"task 1 1 1", "set keys 3", "ask 0 0 read 1", "raw 0 0 -", "begin"} {
		says(t, c, [2]string{l, "error 18"})
	}
	says(t, c, [][2]string{{"task 99 1 1", "error 2"}, {"step 2 5", "error 2"}, {"step 1 1", "0 0 step 1 0 decode"}, {"judge", "fine"}, {"end", "ok"}, {"judge", "error 18"}}...)
	c = console.New()
	for range 1000 {
		says(t, c, [2]string{"raw 0 0 -", "ok"})
	}
	says(t, c, [][2]string{{"raw 0 0 -", "error 17"}, {"ask 0 0 read 1", "error 17"}, {"ask 0 0 read 0", "error 2"}, {"task 1 1 1", "ok"}, {"begin", "ok"}, {"raw 0 0 -", "error 18"}}...)
	if l := c.Say("step 0 1000"); len(l) != 1000 || l[999] != "999 0 step 0 999 decode done 2 0 -" {
		t.Error(len(l))
	}
}

func TestTalk(t *testing.T) { // P32.2
	for text, want := range map[string][]string{"": nil, "\n": {"error 2"}, "end": {"ok"}, "end\n": {"ok"}, "end\nend": {"ok", "ok"}, "end\n\nend\n": {"ok", "error 2", "ok"}, "task 1 0 0\nbegin\nkeys\nfree\n": {"ok", "ok", "16 128 64 0"}, "end\r\n": {"error 2"}} {
		if got := console.Talk(text); !slices.Equal(got, want) {
			t.Errorf("%q: %q", text, got)
		}
	}
}

func TestFine(t *testing.T) { // P32.3
	for seed := range 40 {
		x := seed*7919 + 3
		pick := func(n int) int {
			x = x*1103515245 + 12345
			return (x >> 16 & 0x7fff) % n
		}
		num := func(n int) string { return strconv.Itoa(pick(n)) }
		id := func() string {
			return []string{"@session", "@thread", "@session", "1", "2", "3", "4", "5", "6", "7"}[pick(10)]
		}
		lines := []string{"task 1 0 0", "task 1 0 1", "task " + num(3) + " 0 0", "set nodes " + strconv.Itoa(30+pick(50)), "set keys " + strconv.Itoa(6+pick(20))}
		for i := range 50 {
			if i < 3 {
				lines = append(lines, "ask "+strconv.Itoa(i)+" "+num(9)+" get @session yes")
				continue
			}
			lines = append(lines, "ask "+num(3)+" "+num(9)+" "+[]string{
				"add " + id() + " user " + string("abc"[pick(3)]) + " 61", "add " + id() + " keyring " + string("rst"[pick(3)]) + " -", "link " + id() + " " + id(), "unlink " + id() + " " + id(), "move " + id() + " " + id() + " " + id(),
				"read " + id(), "update " + id() + " 6262", "invalidate " + id(), "timeout " + id() + " " + num(4), "request user a", "join j", "setperm " + id() + " 3f3f3f3f", "clear " + id(), "revoke " + id(),
			}[pick(14)])
		}
		lines = append(lines, "begin")
		for range 80 {
			lines = append(lines, []string{"step " + num(3) + " " + strconv.Itoa(1+pick(9)), "step " + num(3) + " " + strconv.Itoa(1+pick(9)), "step " + num(3) + " 20", "tick 1", "collect 2", "drain 3", "judge", "nothing"}[pick(8)])
		}
		lines = append(lines, "drain 1000", "judge", "left")
		answers := console.Talk(strings.Join(lines, "\n"))
		if slices.Contains(answers, "wrong") || answers[len(answers)-2] != "fine" {
			t.Fatal(seed, "wrong")
		}
		full := slices.ContainsFunc(answers, func(a string) bool { return strings.Contains(a, " done 3 ") })
		if !full && answers[len(answers)-1] != "0 0 0 0 0 0" {
			t.Error(seed, answers[len(answers)-1])
		}
	}
}
