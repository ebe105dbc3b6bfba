package keep_test

import (
	"fmt"
	"math/rand/v2"
	"slices"
	"strings"
	"testing"

	"quarterday/api"
	"quarterday/block"
	"quarterday/keep"
	"quarterday/plain"
)

// under is what there may be: these entries, and a beginning of more; or nothing was formatted.
type under struct {
	formatted  bool
	safe, more []api.Entry
}

// allows tells whether Load may find this.
func (u under) allows(formatted bool, l []api.Entry) bool {
	return formatted == u.formatted && begins(all(u.safe, u.more), l) && len(l) >= len(u.safe)
}

// player plays calls on a disk, and knows by what is promised alone what may be kept.
type player struct {
	t         *testing.T
	r         *rand.Rand
	d         *block.Disk
	may       []under // what may be found behind a Crash, or is now
	formatted bool    // as it was found the last time
	now       []api.Entry
	calls     []string
	count     map[api.Errno]int // of Save's
	lost      int               // how often less was found than was given
}

// say notes a call.
func (p *player) say(call string, err error) {
	p.calls = append(p.calls, fmt.Sprint(call, ": ", plain.Told(err)))
}

// look is a Load, which must find what may be.
func (p *player) look() {
	p.t.Helper()
	l, err := keep.Load(p.d)
	if err != nil && (plain.Told(err) != api.ErrFile || l != nil) {
		p.t.Errorf("Load = %v, %v", l, err)
	}
	p.formatted, p.now = err == nil, l
	if !slices.ContainsFunc(p.may, func(u under) bool { return u.allows(p.formatted, l) }) {
		p.t.Errorf("Load has %d (%v), which may not be", len(l), err)
	}
	if p.t.Failed() {
		p.t.Fatalf("behind %s", strings.Join(p.calls, ", "))
	}
}

// format is one that may fail: then all is as it was, or nothing is kept.
func (p *player) format() {
	err := keep.Format(p.d)
	p.say("Format", err)
	empty := under{formatted: true}
	if err == nil {
		p.may = []under{empty}
		return
	}
	told(p.t, "Format", err, api.ErrState)
	p.may = append(p.may, empty)
}

// given is what is handed to a Save: most times what is kept, and more.
func (p *player) given() []api.Entry {
	l := slices.Clone(p.now)
	for range p.r.IntN(5) {
		l = append(l, sized(4+p.r.IntN([]int{20, 90, 197}[p.r.IntN(3)]), p.r.IntN(3000)))
	}
	if len(l) == 0 {
		return nil
	}
	at := p.r.IntN(len(l))
	switch p.r.IntN(30) {
	case 0:
		return l[:at]
	case 1:
		l[at] = sized(50, p.r.IntN(9))
	case 2:
		l[at] = sized(201+p.r.IntN(90), 0)
	case 3:
		l[at].Period = -1
	case 4:
		l = all(l, list(200, 50))
	}
	return l
}

// want is what a Save must answer, but for the disk's errors and those of too little room.
func (p *player) want(given []api.Entry) api.Errno {
	if !p.formatted {
		return api.ErrFile
	}
	if len(given) < len(p.now) {
		return api.ErrOrder
	}
	for i, e := range given {
		switch bytes := written(e); {
		case bytes < 0:
			return api.ErrRange
		case bytes > 200:
			return api.ErrFull
		case i < len(p.now) && !same(e, p.now[i]):
			return api.ErrOrder
		}
	}
	return api.OK
}

// save is one that may fail.
func (p *player) save() {
	given := p.given()
	want := p.want(given)
	err := keep.Save(p.d, given)
	p.say(fmt.Sprintf("Save of %d", len(given)), err)
	got := plain.Told(err)
	p.count[got]++
	was, before := p.formatted, p.now
	switch {
	case want == api.OK && got == api.OK:
		p.may = []under{{true, given, nil}}
	case want == api.OK && got == api.ErrState:
		for i, u := range p.may {
			if u.formatted && begins(given, u.safe) {
				p.may[i].more = given[len(u.safe):]
			}
		}
	case got == want, want == api.OK && got == api.ErrFull && room(given) > 6000:
		p.look()
		if p.formatted != was || !equal(p.now, before) {
			p.t.Errorf("Save changes something, with %v", got)
		}
	default:
		p.t.Errorf("Save of %d = %v, want %v", len(given), got, want)
	}
}

// crash is any one; what is found then will be found from then on.
func (p *player) crash() {
	c := someCrash(p.r, 12)
	was := len(p.now)
	p.d.Crash(c.keep, c.torn)
	p.say(fmt.Sprintf("Crash(%v, %d)", c.keep, c.torn), nil)
	p.look()
	if len(p.now) < was {
		p.lost++
	}
	p.may = []under{{p.formatted, slices.Clone(p.now), nil}}
}

// play plays one call.
func (p *player) play() {
	switch x := p.r.IntN(100); {
	case x < 4 || !p.formatted && x < 30:
		p.format()
	case x < 22:
		p.crash()
	case x < 42:
		at := p.d.Steps() + p.r.IntN(12) - 1
		p.d.Fail(at)
		p.say(fmt.Sprintf("Fail(%d)", at), nil)
	case x < 50:
		p.d.Fail(-1)
		p.say("Fail(-1)", nil)
	default:
		p.save()
	}
	p.look()
}

// TestK2AsSlow: any calls, one behind the other, against what is promised.
func TestK2AsSlow(t *testing.T) {
	r := rand.New(rand.NewPCG(16, 6))
	count := map[api.Errno]int{}
	lost := 0
	for range 1000 {
		p := &player{t: t, r: r, d: disk(t, fewest+r.IntN(51)), may: []under{{}}, count: count}
		p.look()
		for range 70 {
			p.play()
		}
		lost += p.lost
	}
	for _, e := range []api.Errno{api.OK, api.ErrFile, api.ErrOrder, api.ErrRange, api.ErrFull, api.ErrState} {
		if count[e] < 100 {
			t.Errorf("only %d times %v", count[e], e)
		}
	}
	if lost < 500 {
		t.Errorf("only %d times something was lost", lost)
	}
}
