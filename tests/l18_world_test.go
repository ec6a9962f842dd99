package tests

import (
	"fmt"
	"math"
	"slices"
	"strings"
	"sync"
	"testing"
	"unsafe"

	"loop.example/g00197/impl"
)

func evOf(kind int) impl.Event { return impl.Event{Kind: kind, Host: 1} }

func evHost(kind, host int) impl.Event { return impl.Event{Kind: kind, Host: host} }

func evAsk(q impl.Ask) impl.Event { return impl.Event{Kind: impl.EvAsk, Ask: q, Host: 1} }

func evMake(p string) impl.Event { return evAsk(impl.Ask{Kind: impl.AskMake, Who: 9, Path: p}) }

func evCreate(who int, p string) impl.Event {
	return evAsk(impl.Ask{Kind: impl.AskCreate, Who: who, Path: p})
}

func evAppend(who int, p, text string) impl.Event {
	return evAsk(impl.Ask{Kind: impl.AskAppend, Who: who, Path: p, Text: text})
}

func evClose(who int, p string) impl.Event {
	return evAsk(impl.Ask{Kind: impl.AskClose, Who: who, Path: p})
}

func evMove(who int, p, to string) impl.Event {
	return evAsk(impl.Ask{Kind: impl.AskMove, Who: who, Path: p, To: to})
}

func evDrop(who int, p string) impl.Event {
	return evAsk(impl.Ask{Kind: impl.AskDrop, Who: who, Path: p})
}

func evRead(p string) impl.Event { return evAsk(impl.Ask{Kind: impl.AskRead, Who: 9, Path: p}) }

func evSchema(p string, n int) impl.Event {
	return evAsk(impl.Ask{Kind: impl.AskSchema, Who: 9, Path: p, Num: n})
}

func evQuota(p string, n int) impl.Event {
	return evAsk(impl.Ask{Kind: impl.AskQuota, Who: 9, Path: p, Num: n})
}

func evReopen(who int, p string) impl.Event {
	return evAsk(impl.Ask{Kind: impl.AskReopen, Who: who, Path: p})
}

func evTick(n int) impl.Event { return impl.Event{Kind: impl.EvTick, Host: 1, At: n} }

func evSpoil(host, at int) impl.Event { return impl.Event{Kind: impl.EvSpoil, Host: host, At: at} }

func cutWith(e impl.Event, left ...int) impl.Event {
	e.Cut, e.Left = true, left
	return e
}

func plainEventOk(e impl.Event) bool {
	return between(e.Kind, [2]int{1, 9}) && (e.Kind != 1 || plainAskOk(e.Ask)) && between(e.Host, [2]int{1, 7}) && between(e.At, [2]int{0, math.MaxInt}) && len(e.Left) < 31
}

func plainWorldNew() impl.World {
	return impl.World{Server: impl.Server{Up: true, Tree: treeOf(rootNode()), Groups: 1}, Hosts: upHosts(7)}
}

func plainFile(tree impl.Tree, p string) (impl.Inode, bool) {
	id := plainFind(tree, p)
	node, ok := plainNode(tree, id)
	return node, ok && id != 0 && !node.Dir
}

func plainText(w impl.World, p string) (string, bool) {
	node, ok := plainFile(w.Server.Tree, p)
	text := ""
	for _, piece := range node.Pieces {
		part, there := plainReadGroup(w.Hosts, node.Schema, piece.Group, piece.Len)
		text, ok = text+part, ok && there
	}
	if !ok {
		return "", false
	}
	return text, true
}

func plainSize(list []impl.Size, group int) impl.Size {
	var last impl.Size
	for _, size := range list {
		if size.Group == group {
			last = size
		}
	}
	return last
}

// plainCut wants a disk on which the log stands alone, all of it kept: that of a life.
func plainCut(s impl.Server, e impl.Edit, left []int) impl.Server {
	log := ""
	if len(s.Disk.Files) > 0 {
		log = s.Disk.Files[0].Text
	}
	whole, n := log+logText(e), 0
	if len(left) > 0 {
		n = left[0]
	}
	s.Disk = logAlone(whole[:max(len(log), min(n, len(whole)))])
	s.Up, s.Leases = false, nil
	return s
}

func plainTick(s impl.Server, at int) impl.Server {
	s.Now += at - at/10*10
	for _, p := range plainExpired(s.Leases, s.Now) {
		s.Leases = plainDropLease(s.Leases, p)
		s, _ = plainCommit(s, editClose(p))
	}
	return s
}

// plainHost is what befalls a host, and whether something was done.
func plainHost(h impl.Host, e impl.Event) (impl.Host, bool) {
	was := cloneHost(h)
	switch e.Kind {
	case 3, 4:
		h.Up = e.Kind == 4
	case 5:
		h.Units = nil
	case 6:
		if len(h.Units) > 0 {
			u := h.Units[e.At%len(h.Units)]
			h, _ = plainSpoil(h, u.Group, u.Index, e.At)
		}
	}
	return h, !sameHost(h, was)
}

func plainMendAll(w impl.World) (impl.World, bool) {
	count := 0
	for _, node := range w.Server.Tree.Nodes {
		for _, piece := range node.Pieces {
			hosts, mended := plainMend(w.Hosts, node.Schema, piece.Group)
			w.Hosts = hosts
			count += mended
		}
	}
	return w, count > 0
}

// plainHappen is the world behind an event, its code, and what is told of it.
func plainHappen(w impl.World, e impl.Event) (impl.World, int, string) {
	done := false
	switch e.Kind {
	case 1:
		return plainAnswer(w, e)
	case 2:
		if done = w.Server.Up; done {
			w.Server = plainTick(w.Server, e.At)
		}
	case 7:
		w, done = plainMendAll(w)
	case 8:
		done = w.Server.Up
		w.Server.Up, w.Server.Leases = false, nil
	case 9:
		w.Server, done = plainRestart(w.Server)
	default:
		w.Hosts = cloneHosts(w.Hosts)
		w.Hosts[e.Host-1], done = plainHost(w.Hosts[e.Host-1], e)
	}
	if !done {
		return w, 1, ""
	}
	return w, 0, ""
}

func plainAnswer(w impl.World, e impl.Event) (impl.World, int, string) {
	q := e.Ask
	if !w.Server.Up {
		return w, 11, ""
	}
	if code := plainMayWrite(w.Server, q); code != 0 {
		return w, code, ""
	}
	if q.Kind == 7 {
		_, there := plainFile(w.Server.Tree, q.Path)
		text, ok := plainText(w, q.Path)
		return w, map[[2]bool]int{{true, true}: 0, {true, false}: 10, {false, false}: 1}[[2]bool{there, ok}], text
	}
	was := w
	if q.Kind == 2 || q.Kind == 10 {
		leases, ok := plainTake(w.Server.Leases, q.Path, q.Who, w.Server.Now)
		if !ok {
			return was, 6, ""
		}
		w.Server.Leases = leases
	} else if _, _, code := plainApply(w.Server.Tree, plainEditOf(q), w.Server.Groups); code != 0 {
		return was, code, ""
	}
	if q.Kind == 3 {
		after, ok := plainWriteAll(w, q)
		if !ok {
			return was, 9, ""
		}
		w = after
	}
	if e.Cut {
		w.Server = plainCut(w.Server, plainEditOf(q), e.Left)
		return w, 11, ""
	}
	server, code := plainCommit(w.Server, plainEditOf(q))
	if code != 0 {
		return was, code, ""
	}
	w.Server = server
	return plainBehind(was, w, q), 0, ""
}

func plainWriteAll(w impl.World, q impl.Ask) (impl.World, bool) {
	before, _ := plainFile(w.Server.Tree, q.Path)
	size, text := []int{16, 24, 32}[before.Schema-1], q.Text
	w.Sizes = slices.Clone(w.Sizes)
	for group := w.Server.Groups; text != ""; group++ {
		part := text[:min(size, len(text))]
		hosts, ok := plainWrite(w.Hosts, before.Schema, group, part)
		if !ok {
			return w, false
		}
		w.Hosts, w.Sizes = hosts, append(w.Sizes, impl.Size{Group: group, Text: part})
		text = text[len(part):]
	}
	return w, true
}

// plainBehind is what is done behind a commit: was is the world ahead of it.
func plainBehind(was, w impl.World, q impl.Ask) impl.World {
	if q.Kind < 4 || q.Kind > 6 {
		return w
	}
	w.Server.Leases = slices.DeleteFunc(slices.Clone(w.Server.Leases), func(l impl.Lease) bool {
		return l.Path == q.Path || q.Kind != 4 && strings.HasPrefix(l.Path, q.Path+"/")
	})
	if q.Kind != 6 {
		return w
	}
	gone := map[int]bool{}
	for _, node := range was.Server.Tree.Nodes {
		if underPath(plainTold(was.Server.Tree, node.Id).Path, q.Path) {
			for _, piece := range node.Pieces {
				gone[piece.Group] = true
			}
		}
	}
	w.Hosts = cloneHosts(w.Hosts)
	for at, h := range w.Hosts {
		if h.Up {
			w.Hosts[at].Units = slices.DeleteFunc(h.Units, func(u impl.Unit) bool { return gone[u.Group] })
		}
	}
	return w
}

func plainStep(w impl.World, e impl.Event) impl.World {
	after, code, told := plainHappen(w, e)
	after.Codes, after.Told = append(slices.Clone(w.Codes), code), append(slices.Clone(w.Told), told)
	return after
}

func plainRun(events []impl.Event) (impl.World, bool) {
	if len(events) > 60 {
		return impl.World{}, false
	}
	w := plainWorldNew()
	for _, e := range events {
		if !plainEventOk(e) {
			return impl.World{}, false
		}
		w = plainStep(w, e)
	}
	return w, true
}

func sameWorld(a, b impl.World) bool {
	return sameServer(a.Server, b.Server) && sameHosts(a.Hosts, b.Hosts) && slices.Equal(a.Codes, b.Codes) && slices.Equal(a.Told, b.Told) && slices.Equal(a.Sizes, b.Sizes)
}

func cloneWorld(w impl.World) impl.World {
	return impl.World{Server: cloneServer(w.Server), Hosts: cloneHosts(w.Hosts), Codes: slices.Clone(w.Codes), Told: slices.Clone(w.Told), Sizes: slices.Clone(w.Sizes)}
}

func tellWorld(w impl.World) string {
	return fmt.Sprintf("%s; %s; codes %d, told %.300s, sizes %s", tellServer(w.Server), tellHosts(w.Hosts), w.Codes, fmt.Sprintf("%q", w.Told), inShort(w.Sizes))
}

func sameEvent(a, b impl.Event) bool {
	return a.Kind == b.Kind && a.Ask == b.Ask && a.Host == b.Host && a.At == b.At && a.Cut == b.Cut && slices.Equal(a.Left, b.Left)
}

func cloneEvents(events []impl.Event) []impl.Event {
	list := slices.Clone(events)
	for i := range list {
		list[i].Left = slices.Clone(list[i].Left)
	}
	return list
}

func wantWorld(t *testing.T, what string, got, want impl.World) {
	t.Helper()
	if !slices.Equal(got.Codes, want.Codes) {
		t.Fatalf("%s: the codes %d, want %d", what, got.Codes, want.Codes)
	}
	if !sameWorld(got, want) {
		t.Fatalf("%s: %s, want %s", what, tellWorld(got), tellWorld(want))
	}
}

// mustRun runs a life, and holds all of its world against the test's own.
func mustRun(t *testing.T, what string, events []impl.Event) impl.World {
	t.Helper()
	before := cloneEvents(events)
	got, ok := impl.RunWorld(events)
	want, wantOk := plainRun(events)
	if !ok || !wantOk {
		t.Fatalf("%s: RunWorld is %v, want true (%v in the test's own way) of %s", what, ok, wantOk, inShort(events))
	}
	wantWorld(t, what, got, want)
	if !slices.EqualFunc(events, before, sameEvent) {
		t.Fatalf("%s: the events are other ones", what)
	}
	return got
}

func wantNoLife(t *testing.T, what string, events []impl.Event) {
	t.Helper()
	got, ok := impl.RunWorld(events)
	if ok || !sameWorld(got, impl.World{}) {
		t.Errorf("%s: RunWorld of %d events is %v, %s", what, len(events), ok, tellWorld(got))
	}
	if _, own := plainRun(events); own {
		t.Errorf("%s: the test's own RunWorld of %d events is true", what, len(events))
	}
}

func wantEventOk(t *testing.T, what string, e impl.Event, want bool) {
	t.Helper()
	if impl.EventOk(e) != want {
		t.Errorf("%s: EventOk is %v of %s", what, !want, inShort(e))
	}
	if plainEventOk(e) != want {
		t.Errorf("%s: the test's own EventOk is %v of %s", what, !want, inShort(e))
	}
	if _, ok := impl.RunWorld([]impl.Event{e}); ok != want {
		t.Errorf("%s: RunWorld is %v of %s", what, ok, inShort(e))
	}
}

func wantText(t *testing.T, what string, w impl.World, p, want string) {
	t.Helper()
	if text, ok := impl.TextOf(w, p); text != want || !ok {
		t.Errorf("%s: TextOf %s = %q, %v, want %q", what, p, text, ok, want)
	}
}

func wantNoText(t *testing.T, what string, w impl.World, p string) {
	t.Helper()
	if text, ok := impl.TextOf(w, p); text != "" || ok {
		t.Errorf("%s: TextOf %.40q = %q, %v", what, p, text, ok)
	}
}

// story is a life that is told event by event: was is the world ahead of the last one, and now the
// one behind it.
type story struct {
	t        *testing.T
	what     string
	events   []impl.Event
	was, now impl.World
}

func storyOf(t *testing.T, what string, events ...impl.Event) *story {
	t.Helper()
	s := &story{t: t, what: what, now: impl.WorldNew()}
	for _, e := range events {
		s.then(e, 0, "")
	}
	return s
}

// then goes on with an event that must have this code, and of which this must be told.
func (s *story) then(e impl.Event, code int, told string) {
	s.t.Helper()
	s.events = append(s.events, e)
	s.was = s.now
	s.now = mustRun(s.t, fmt.Sprintf("%s, event %d", s.what, len(s.events)-1), s.events)
	last := len(s.events) - 1
	if s.now.Codes[last] != code || s.now.Told[last] != told {
		s.t.Fatalf("%s: event %d, %s, has the code %d and tells %q, want %d and %q", s.what, last, inShort(e), s.now.Codes[last], s.now.Told[last], code, told)
	}
	if !slices.Equal(s.now.Codes[:last], s.was.Codes) || !slices.Equal(s.now.Told[:last], s.was.Told) {
		s.t.Fatalf("%s: event %d, %s, changes what was told: %d of %d", s.what, last, inShort(e), s.now.Codes, s.was.Codes)
	}
}

func (s *story) all(events ...impl.Event) {
	s.t.Helper()
	for _, e := range events {
		s.then(e, 0, "")
	}
}

// nothing goes on with an event that has this code, and changes nothing.
func (s *story) nothing(e impl.Event, code int) {
	s.t.Helper()
	s.then(e, code, "")
	want := cloneWorld(s.was)
	want.Codes, want.Told = s.now.Codes, s.now.Told
	wantWorld(s.t, fmt.Sprintf("%s, %s changes nothing", s.what, inShort(e)), s.now, want)
}

// aside is the same story once more, so that it may go on in another way.
func (s *story) aside(what string) *story {
	return &story{t: s.t, what: s.what + ", " + what, events: slices.Clone(s.events), was: s.was, now: s.now}
}

func (s *story) leases(want ...impl.Lease) {
	s.t.Helper()
	wantLeases(s.t, s.what, s.now.Server.Leases, want)
}

// file is that of a path, which must be there.
func (s *story) file(p string) impl.Inode {
	s.t.Helper()
	node, ok := plainFile(s.now.Server.Tree, p)
	if !ok {
		s.t.Fatalf("%s: there is no file %s", s.what, p)
	}
	return node
}

func (s *story) sizes(want ...impl.Size) {
	s.t.Helper()
	if !slices.Equal(s.now.Sizes, want) {
		s.t.Fatalf("%s: the sizes are %s, want %s", s.what, inShort(s.now.Sizes), inShort(want))
	}
}

func (s *story) reads(p, want string) {
	s.t.Helper()
	s.then(evRead(p), 0, want)
	wantText(s.t, s.what, s.now, p, want)
}

func TestNumbersOfWorlds(t *testing.T) {
	kinds := []int{impl.EvAsk, impl.EvTick, impl.EvHostDown, impl.EvHostUp, impl.EvLose, impl.EvSpoil, impl.EvMend, impl.EvFall, impl.EvRise}
	if !slices.Equal(kinds, []int{1, 2, 3, 4, 5, 6, 7, 8, 9}) {
		t.Errorf("the kinds are %d", kinds)
	}
	e := impl.Event{Kind: 1, Ask: impl.Ask{Kind: 1}, Host: 2, At: 3, Cut: true, Left: []int{4}}
	if got := fmt.Sprintf("%+v", e); got != "{Kind:1 Ask:{Kind:1 Who:0 Path: To: Text: Num:0} Host:2 At:3 Cut:true Left:[4]}" {
		t.Errorf("an event is %s", got)
	}
	w := impl.World{Server: impl.Server{}, Hosts: nil, Codes: []int{1}, Told: []string{"a"}, Sizes: []impl.Size{{Group: 1, Text: "b"}}}
	if got := fmt.Sprintf("%+v", w); got != "{Server:{Up:false Tree:{Nodes:[] Next:0} Groups:0 Disk:{Files:[]} Leases:[] Now:0} Hosts:[] Codes:[1] Told:[a] Sizes:[{Group:1 Text:b}]}" {
		t.Errorf("a world is %s", got)
	}
}

func TestEventsOfEachKind(t *testing.T) {
	for kind := -2; kind <= 12; kind++ {
		e := evMake("/d")
		e.Kind = kind
		wantEventOk(t, "a kind", e, kind >= 1 && kind <= 9)
	}
	for _, kind := range roundAbout(4) {
		e := evMake("/d")
		e.Kind = kind
		wantEventOk(t, "a kind that is none", e, between(kind, [2]int{1, 9}))
	}
	wantEventOk(t, "nothing", impl.Event{}, false)
}

// Host, At and Left are asked of each kind, the ask of EvAsk alone.
func TestFieldsOfEvents(t *testing.T) {
	for kind := 1; kind <= 9; kind++ {
		right := evMake("/d")
		right.Kind = kind
		wantEventOk(t, "right", right, true)
		for _, host := range append(roundAbout(3), -1, 0, 1, 2, 6, 7, 8, 9) {
			e := right
			e.Host = host
			wantEventOk(t, "a host", e, host >= 1 && host <= impl.MaxHosts)
		}
		for _, at := range append(farNumbers(), -1, 0, 1, 9, 10, 11, math.MaxInt) {
			e := right
			e.At = at
			wantEventOk(t, "an At", e, at >= 0)
		}
		for count := range 70 {
			e := right
			e.Left = slices.Repeat([]int{-count}, count)
			wantEventOk(t, "so many left", e, count <= impl.MaxFiles)
			e.Cut = true
			wantEventOk(t, "so many left, cut", e, count <= impl.MaxFiles)
		}
		for _, far := range farNumbers() {
			e := right
			e.Left = []int{far, -far}
			wantEventOk(t, "far ones left", e, true)
		}
	}
}

func TestAsksOfEvents(t *testing.T) {
	d := draw(180)
	right, wrong := 0, 0
	paths := append(pathsOfEachDepth(), ninePaths()...)
	for range 5000 {
		q := d.ask(paths)
		for kind := 1; kind <= 9; kind++ {
			e := evAsk(q)
			e.Kind = kind
			want := kind != impl.EvAsk || plainAskOk(q)
			if impl.EventOk(e) != want {
				t.Fatalf("EventOk is %v of %s", !want, inShort(e))
			}
			if kind == impl.EvAsk && want {
				right++
			} else if kind == impl.EvAsk {
				wrong++
			}
		}
	}
	if right < 3000 || wrong < 500 {
		t.Errorf("%d asks were right, and %d were not", right, wrong)
	}
	for _, rule := range askRules() {
		q := rule.right()
		wantEventOk(t, "a right ask", evAsk(q), true)
		q.Who = 0
		wantEventOk(t, "an ask of nobody", evAsk(q), false)
	}
}

func TestANewWorld(t *testing.T) {
	want := impl.World{
		Server: impl.Server{Up: true, Tree: impl.Tree{Nodes: []impl.Inode{rootNode()}, Next: 2}, Groups: 1},
		Hosts:  []impl.Host{{Id: 1, Up: true}, {Id: 2, Up: true}, {Id: 3, Up: true}, {Id: 4, Up: true}, {Id: 5, Up: true}, {Id: 6, Up: true}, {Id: 7, Up: true}},
	}
	wantWorld(t, "new", impl.WorldNew(), want)
	wantWorld(t, "of no event", mustRun(t, "no event", nil), want)
	wantWorld(t, "of no event", mustRun(t, "no event", []impl.Event{}), want)
	for _, w := range []impl.World{impl.WorldNew(), mustRun(t, "no event", nil)} {
		scribbleWorld(w)
	}
	wantWorld(t, "new again", impl.WorldNew(), want)
	wantWorld(t, "of no event again", mustRun(t, "no event", nil), want)
	for _, p := range append(pathsOfEachDepth(), "", "x") {
		wantNoText(t, "new", want, p)
	}
}

func TestSizesOfGroups(t *testing.T) {
	want := func(what string, list []impl.Size, group int, want impl.Size) {
		t.Helper()
		if got := impl.SizeOf(list, group); got != want {
			t.Errorf("%s: SizeOf %d = %s, want %s", what, group, inShort(got), inShort(want))
		}
	}
	size := func(group int, text string) impl.Size { return impl.Size{Group: group, Text: text} }
	want("none", nil, 1, impl.Size{})
	want("none", []impl.Size{}, 0, impl.Size{})
	one := []impl.Size{size(4, "hall")}
	want("one", one, 4, size(4, "hall"))
	want("one", one, 3, impl.Size{})
	want("one", one, 0, impl.Size{})
	several := []impl.Size{size(1, "a"), size(2, "b"), size(1, "c"), size(3, ""), size(2, "d"), size(0, "nought"), size(-1, "below"), size(1, "e"), size(3, "f"), size(3, "")}
	want("three", several, 1, size(1, "e"))
	want("two", several, 2, size(2, "d"))
	want("an empty one is the last", several, 3, size(3, ""))
	want("the group 0", several, 0, size(0, "nought"))
	want("a group below 0", several, -1, size(-1, "below"))
	want("no such group", several, 4, impl.Size{})
	for _, far := range farNumbers() {
		want("a far group", append(several, size(far, "far")), far, size(far, "far"))
		want("no far group", slices.DeleteFunc(slices.Clone(several), func(s impl.Size) bool { return s.Group == far }), far, impl.Size{})
	}
	d := draw(181)
	for range 3000 {
		var list []impl.Size
		for range d.below(12) {
			list = append(list, size(d.below(5), d.text(d.below(4))))
		}
		group := d.below(6)
		want("drawn", list, group, plainSize(list, group))
	}
}

// A life with events of each kind and asks of each kind, in which nothing is refused.
func TestALifeThatIsWrittenOut(t *testing.T) {
	thirty := "a cell is four bytes in a unit"
	s := storyOf(t, "a life", evMake("/d"), evSchema("/d", 2), evCreate(1, "/d/f"))
	s.leases(leaseOf("/d/f", 1, 0))
	s.reads("/d/f", "")
	s.then(evAppend(1, "/d/f", thirty), 0, "")
	s.sizes(impl.Size{Group: 1, Text: thirty[:24]}, impl.Size{Group: 2, Text: thirty[24:]})
	// Two groups of five units each: the second one goes to the two hosts without units first.
	for at, want := range []int{2, 2, 2, 1, 1, 1, 1} {
		if load := impl.LoadOf(s.now.Hosts[at]); load != want {
			t.Errorf("host %d has %d units, want %d", at+1, load, want)
		}
	}
	s.then(evTick(4), 0, "")
	s.then(evAppend(1, "/d/f", "x"), 0, "")
	s.sizes(impl.Size{Group: 1, Text: thirty[:24]}, impl.Size{Group: 2, Text: thirty[24:]}, impl.Size{Group: 3, Text: "x"})
	s.leases(leaseOf("/d/f", 1, 0))
	s.reads("/d/f", thirty+"x")
	s.then(evQuota("/", 33), 0, "")
	s.then(evClose(1, "/d/f"), 0, "")
	s.leases()
	s.nothing(evAppend(1, "/d/f", "y"), impl.WrongHolder)
	s.then(evReopen(2, "/d/f"), 0, "")
	s.leases(leaseOf("/d/f", 2, 4))
	s.nothing(evAppend(1, "/d/f", "y"), impl.WrongHolder)
	s.nothing(evAppend(2, "/d/f", "yzz"), impl.OverQuota)
	s.then(evAppend(2, "/d/f", "yz"), 0, "")
	s.then(evMove(2, "/d/f", "/g"), 0, "")
	s.leases()
	s.nothing(evRead("/d/f"), impl.NotFound)
	s.reads("/g", thirty+"xyz")
	// Two hosts are lost in two ways, and all is read; what they had is mended.
	s.then(evHost(impl.EvHostDown, 1), 0, "")
	s.then(evHost(impl.EvLose, 2), 0, "")
	s.reads("/g", thirty+"xyz")
	s.then(evOf(impl.EvMend), 0, "")
	s.reads("/g", thirty+"xyz")
	for _, piece := range s.file("/g").Pieces {
		if left := impl.LeftOf(s.now.Hosts, 2, piece.Group); left != 5 {
			t.Errorf("of the group %d %d units are there", piece.Group, left)
		}
	}
	s.then(evHost(impl.EvHostUp, 1), 0, "")
	s.then(evSpoil(3, 0), 0, "")
	s.reads("/g", thirty+"xyz")
	s.then(evOf(impl.EvFall), 0, "")
	s.then(evRead("/g"), impl.Down, "")
	s.then(evOf(impl.EvRise), 0, "")
	s.reads("/g", thirty+"xyz")
	// Behind the fall nobody has a lease, but the file has its Writer.
	s.nothing(evAppend(2, "/g", "a"), impl.WrongHolder)
	s.nothing(evReopen(2, "/g"), impl.WrongHolder)
	s.then(evClose(5, "/g"), 0, "")
	s.then(evReopen(5, "/g"), 0, "")
	s.nothing(evAppend(5, "/g", "a"), impl.OverQuota)
	s.then(evQuota("/", 34), 0, "")
	s.then(evAppend(5, "/g", "a"), 0, "")
	if pieces := s.file("/g").Pieces; pieces[len(pieces)-1] != (impl.Piece{Group: 25, Len: 1}) {
		t.Errorf("behind the boot the group is %+v", pieces)
	}
	s.reads("/g", thirty+"xyza")
	s.then(evDrop(5, "/g"), 0, "")
	s.leases()
	s.nothing(evRead("/g"), impl.NotFound)
	for _, h := range s.now.Hosts {
		if impl.LoadOf(h) != 0 {
			t.Errorf("behind the drop there are units: %s", tellHost(h))
		}
	}
	kinds := map[[2]int]bool{}
	for _, e := range s.events {
		kinds[[2]int{e.Kind, e.Ask.Kind}] = true
	}
	if len(kinds) != 10+8 {
		t.Errorf("the life has events of just %d kinds: %v", len(kinds), kinds)
	}
}

// fileOf are the events that write a file of a schema, of one part after the other.
func fileOf(s, who int, p string, parts ...string) []impl.Event {
	events := []impl.Event{evSchema("/", s), evCreate(who, p)}
	for _, part := range parts {
		events = append(events, evAppend(who, p, part))
	}
	return events
}

// threeParts are of several groups, of one that is full, and of one byte.
func threeParts(c schema) []string {
	return []string{drawn(182, 60), drawn(183, c.size()), "z"}
}

// Each host that is lost in any way is missed, and mended, with all files of each schema.
func TestLivesWithAHostLost(t *testing.T) {
	for _, c := range schemas() {
		parts := threeParts(c)
		text := strings.Join(parts, "")
		for host := 1; host <= impl.MaxHosts; host++ {
			for what, losses := range map[string][]impl.Event{
				"down":   {evHost(impl.EvHostDown, host)},
				"lost":   {evHost(impl.EvLose, host)},
				"spoilt": {evSpoil(host, 0), evSpoil(host, 1), evSpoil(host, 2)},
			} {
				s := storyOf(t, fmt.Sprintf("schema %d, host %d is %s", c.s, host, what), fileOf(c.s, 3, "/f", parts...)...)
				units := len(s.now.Hosts[host-1].Units)
				for i, e := range losses {
					if e.Kind == impl.EvSpoil && i >= units {
						// The first one again, which is spoilt already.
						s.nothing(e, 1)
						continue
					}
					s.then(e, 0, "")
				}
				s.reads("/f", text)
				s.then(evOf(impl.EvMend), 0, "")
				s.reads("/f", text)
				for _, piece := range s.file("/f").Pieces {
					wantApart(t, s.what, s.now.Hosts, c, piece.Group)
				}
				s.nothing(evOf(impl.EvMend), 1)
				s.then(evOf(impl.EvFall), 0, "")
				s.then(evOf(impl.EvRise), 0, "")
				s.reads("/f", text)
			}
		}
	}
}

// As many hosts may be lost as there are sums, and not one more.
func TestLivesWithSeveralHostsLost(t *testing.T) {
	for _, c := range schemas() {
		text := drawn(184, c.size())
		for host := 1; host <= impl.MaxHosts; host++ {
			s := storyOf(t, fmt.Sprintf("schema %d, from host %d on", c.s, host), fileOf(c.s, 3, "/f", text)...)
			left := c.all()
			for i := range impl.MaxHosts {
				h := s.now.Hosts[(host+i-1)%7]
				if impl.LoadOf(h) == 0 {
					s.nothing(evHost(impl.EvLose, h.Id), 1)
					continue
				}
				s.then(evHost(impl.EvLose, h.Id), 0, "")
				left--
				if left >= c.units {
					s.reads("/f", text)
				} else {
					s.nothing(evRead("/f"), impl.LostData)
					s.nothing(evOf(impl.EvMend), 1)
					wantNoText(t, s.what, s.now, "/f")
				}
			}
			if left != 0 {
				t.Errorf("%s: %d units were never lost", s.what, left)
			}
		}
	}
}

func TestLivesOfManyEvents(t *testing.T) {
	for _, kind := range []int{2, 3, 4, 5, 6, 7, 8, 9} {
		for _, count := range []int{0, 1, 59, 60} {
			mustRun(t, "so many events", slices.Repeat([]impl.Event{evOf(kind)}, count))
		}
		for _, count := range []int{61, 62, 120, 1000} {
			wantNoLife(t, "too many events", slices.Repeat([]impl.Event{evOf(kind)}, count))
		}
	}
	events := append(fileOf(1, 3, "/f", slices.Repeat([]string{"x"}, 40)...), slices.Repeat([]impl.Event{evRead("/f")}, 18)...)
	w := mustRun(t, "sixty events", events)
	if len(w.Codes) != 60 || len(w.Told) != 60 || w.Told[59] != strings.Repeat("x", 40) || len(w.Sizes) != 40 {
		t.Errorf("sixty events: %s", tellWorld(w))
	}
	wantNoLife(t, "one more", append(events, evRead("/f")))
}

func wrongEvents() map[string]impl.Event {
	wrong := map[string]impl.Event{
		"nothing": {}, "the kind 0": evOf(0), "the kind 10": evOf(10), "the host 0": evHost(impl.EvMend, 0), "the host 8": evHost(impl.EvTick, 8),
		"an At below 0": evTick(-1), "no ask": evOf(impl.EvAsk), "an ask of nobody": evCreate(0, "/f"), "an ask of 10": evCreate(10, "/f"),
		"an ask of no path": evRead("/"), "no text": evAppend(1, "/f", ""), "61 bytes": evAppend(1, "/f", strings.Repeat("x", 61)),
		"a schema": evSchema("/", 4), "a quota": evQuota("/", 1001), "31 left": cutWith(evRead("/f"), make([]int, 31)...),
		"a To": evMove(1, "/f", ""),
	}
	return wrong
}

func TestLivesWithAnEventThatIsNotRight(t *testing.T) {
	right := append(fileOf(1, 3, "/f", "hall"), evOf(impl.EvFall), evOf(impl.EvRise), evRead("/f"))
	mustRun(t, "all of them right", right)
	for what, wrong := range wrongEvents() {
		wantEventOk(t, what, wrong, false)
		for at := range len(right) + 1 {
			wantNoLife(t, what, slices.Insert(slices.Clone(right), at, wrong))
		}
		// Also where the server is not Up, and nothing would be asked.
		wantNoLife(t, what, []impl.Event{evOf(impl.EvFall), wrong})
		wantNoLife(t, what, append(slices.Repeat([]impl.Event{evOf(impl.EvMend)}, 59), wrong))
		wantNoLife(t, what, append(slices.Repeat([]impl.Event{evOf(impl.EvMend)}, 60), wrong))
	}
}

// Of each kind of ask each code that it may have in a life, and the asks ahead of it.
func TestCodesOfAsks(t *testing.T) {
	many := func(count int, of func(i int) impl.Event) []impl.Event {
		var events []impl.Event
		for i := range count {
			events = append(events, of(i))
		}
		return events
	}
	name := func(i int) string { return fmt.Sprintf("/n%d", i) }
	full := many(13, func(i int) impl.Event { return evMake(name(i)) })
	held := many(8, func(i int) impl.Event { return evCreate(1, name(i)) })
	written := fileOf(1, 3, "/f", "hall")
	closed := append(slices.Clone(written), evClose(3, "/f"))
	deep := []impl.Event{evMake("/a"), evMake("/a/b"), evMake("/a/b/c"), evMake("/x"), evMake("/x/y")}
	lost := append(slices.Clone(written), evHost(impl.EvLose, 1), evHost(impl.EvLose, 2))
	fewUp := append(slices.Clone(written), evHost(impl.EvHostDown, 1), evHost(impl.EvHostDown, 2), evHost(impl.EvHostDown, 3), evHost(impl.EvHostDown, 4), evHost(impl.EvHostDown, 5))
	risen := append(slices.Clone(written), evOf(impl.EvFall), evOf(impl.EvRise))
	pieces := fileOf(1, 3, "/f", slices.Repeat([]string{"x"}, 40)...)
	long := fileOf(3, 3, "/f", slices.Repeat([]string{strings.Repeat("x", 60)}, 16)...)
	for _, c := range []struct {
		ahead []impl.Event
		e     impl.Event
		code  int
		told  string
	}{
		{nil, evMake("/d"), 0, ""},
		{nil, evMake("/d/e"), impl.NotFound, ""},
		{deep, evMake("/a"), impl.Exists, ""},
		{written, evMake("/f"), impl.Exists, ""},
		{written, evMake("/f/d"), impl.NotDir, ""},
		{full, evMake("/d"), impl.TooMany, ""},
		{nil, evCreate(1, "/f"), 0, ""},
		{nil, evCreate(1, "/d/f"), impl.NotFound, ""},
		{deep, evCreate(1, "/a"), impl.Exists, ""},
		{closed, evCreate(1, "/f"), impl.Exists, ""},
		{written, evCreate(3, "/f"), impl.Exists, ""},
		{written, evCreate(1, "/f"), impl.WrongHolder, ""},
		{written, evCreate(3, "/f/g"), impl.NotDir, ""},
		{full, evCreate(1, "/f"), impl.TooMany, ""},
		{held, evCreate(1, "/f"), impl.WrongHolder, ""},
		{held, evCreate(1, name(0)), impl.Exists, ""},
		{held, evCreate(1, "/d/f"), impl.WrongHolder, ""},
		{written, evAppend(3, "/f", "door"), 0, ""},
		{written, evAppend(1, "/f", "door"), impl.WrongHolder, ""},
		{closed, evAppend(3, "/f", "door"), impl.WrongHolder, ""},
		{risen, evAppend(3, "/f", "door"), impl.WrongHolder, ""},
		{nil, evAppend(3, "/f", "door"), impl.WrongHolder, ""},
		{deep, evAppend(3, "/a", "door"), impl.WrongHolder, ""},
		{append(slices.Clone(written), evQuota("/", 7)), evAppend(3, "/f", "door"), impl.OverQuota, ""},
		{append(slices.Clone(written), evQuota("/", 8)), evAppend(3, "/f", "door"), 0, ""},
		{long, evAppend(3, "/f", strings.Repeat("y", 41)), impl.OverQuota, ""},
		{long, evAppend(3, "/f", strings.Repeat("y", 40)), 0, ""},
		{pieces, evAppend(3, "/f", "y"), impl.TooMany, ""},
		{pieces[:40], evAppend(3, "/f", strings.Repeat("y", 33)), impl.TooMany, ""},
		{pieces[:40], evAppend(3, "/f", strings.Repeat("y", 32)), 0, ""},
		{fewUp, evAppend(3, "/f", "door"), impl.NoHosts, ""},
		{fewUp, evAppend(1, "/f", "door"), impl.WrongHolder, ""},
		{append(slices.Clone(fewUp), evQuota("/", 7)), evAppend(3, "/f", "door"), impl.OverQuota, ""},
		{written, evClose(3, "/f"), 0, ""},
		{nil, evClose(3, "/f"), impl.NotFound, ""},
		{deep, evClose(3, "/a"), impl.NotDir, ""},
		{written, evClose(1, "/f"), impl.WrongHolder, ""},
		{closed, evClose(3, "/f"), impl.WrongHolder, ""},
		{risen, evClose(1, "/f"), 0, ""},
		{written, evMove(3, "/f", "/g"), 0, ""},
		{written, evMove(1, "/f", "/g"), impl.WrongHolder, ""},
		{closed, evMove(1, "/f", "/g"), 0, ""},
		{nil, evMove(1, "/f", "/g"), impl.NotFound, ""},
		{deep, evMove(1, "/a", "/no/a"), impl.NotFound, ""},
		{deep, evMove(1, "/a", "/x"), impl.Exists, ""},
		{append(slices.Clone(closed), deep...), evMove(1, "/a", "/f/a"), impl.NotDir, ""},
		{deep, evMove(1, "/a", "/a/b/d"), impl.BadEdit, ""},
		{deep, evMove(1, "/a", "/x/y/a"), impl.TooMany, ""},
		{deep, evMove(1, "/a", "/x/a"), 0, ""},
		{written, evDrop(3, "/f"), 0, ""},
		{written, evDrop(1, "/f"), impl.WrongHolder, ""},
		{closed, evDrop(1, "/f"), 0, ""},
		{deep, evDrop(1, "/a"), 0, ""},
		{nil, evDrop(1, "/f"), impl.NotFound, ""},
		{written, evRead("/f"), 0, "hall"},
		{closed, evRead("/f"), 0, "hall"},
		{risen, evRead("/f"), 0, "hall"},
		{fewUp, evRead("/f"), impl.LostData, ""},
		{lost, evRead("/f"), impl.LostData, ""},
		{held, evRead(name(0)), 0, ""},
		{nil, evRead("/f"), impl.NotFound, ""},
		{deep, evRead("/a"), impl.NotFound, ""},
		{written, evRead("/f/f"), impl.NotFound, ""},
		{deep, evSchema("/a", 2), 0, ""},
		{nil, evSchema("/a", 2), impl.NotFound, ""},
		{written, evSchema("/f", 2), impl.NotDir, ""},
		{deep, evQuota("/a", 0), 0, ""},
		{nil, evQuota("/a", 0), impl.NotFound, ""},
		{written, evQuota("/f", 0), impl.NotDir, ""},
		{written, evQuota("/", 3), impl.OverQuota, ""},
		{written, evQuota("/", 4), 0, ""},
		{closed, evReopen(1, "/f"), 0, ""},
		{written, evReopen(1, "/f"), impl.WrongHolder, ""},
		{written, evReopen(3, "/f"), impl.WrongHolder, ""},
		{risen, evReopen(3, "/f"), impl.WrongHolder, ""},
		{nil, evReopen(1, "/f"), impl.NotFound, ""},
		{deep, evReopen(1, "/a"), impl.NotDir, ""},
		{append(slices.Clone(closed), held...), evReopen(1, "/f"), impl.WrongHolder, ""},
	} {
		s := storyOf(t, fmt.Sprintf("behind %d events", len(c.ahead)), c.ahead[:max(0, len(c.ahead)-1)]...)
		if len(c.ahead) > 0 {
			s.then(c.ahead[len(c.ahead)-1], 0, "")
		}
		if c.code == 0 {
			s.then(c.e, 0, c.told)
		} else {
			s.nothing(c.e, c.code)
		}
		// The same ask of a server that is not Up.
		fell := storyOf(t, "fallen", append(slices.Clone(c.ahead), evOf(impl.EvFall))...)
		fell.nothing(c.e, impl.Down)
		fell.nothing(cutWith(c.e), impl.Down)
	}
}

func TestTicks(t *testing.T) {
	for _, at := range []int{0, 1, 5, 8, 9, 10, 11, 19, 20, 21, 99, 100, 1 << 40, math.MaxInt, math.MaxInt - 7} {
		s := storyOf(t, fmt.Sprintf("a tick of %d", at), evTick(at))
		if s.now.Server.Now != at%10 {
			t.Errorf("behind a tick of %d it is %d", at, s.now.Server.Now)
		}
		s.then(evTick(3), 0, "")
		s.then(evTick(at), 0, "")
		if s.now.Server.Now != 3+2*(at%10) {
			t.Errorf("behind two ticks of %d and one of 3 it is %d", at, s.now.Server.Now)
		}
	}
	s := storyOf(t, "ticks", evTick(9), evTick(10), evTick(11))
	if s.now.Server.Now != 10 {
		t.Errorf("behind 9, 10 and 11 it is %d", s.now.Server.Now)
	}
	s = storyOf(t, "many ticks", slices.Repeat([]impl.Event{evTick(9)}, 60)...)
	if s.now.Server.Now != 540 {
		t.Errorf("behind 60 ticks it is %d", s.now.Server.Now)
	}
}

// A lease is taken away, and its file closed, twelve behind it was Seen; the others stay.
func TestLeasesThatATickTakesAway(t *testing.T) {
	s := storyOf(t, "leases", evCreate(1, "/f"), evTick(4), evCreate(2, "/a"), evCreate(1, "/z"), evTick(1), evCreate(3, "/k"), evTick(6))
	s.leases(leaseOf("/a", 2, 4), leaseOf("/f", 1, 0), leaseOf("/k", 3, 5), leaseOf("/z", 1, 4))
	s.then(evTick(10), 0, "")
	s.leases(leaseOf("/a", 2, 4), leaseOf("/f", 1, 0), leaseOf("/k", 3, 5), leaseOf("/z", 1, 4))
	s.then(evTick(1), 0, "")
	s.leases(leaseOf("/a", 2, 4), leaseOf("/k", 3, 5), leaseOf("/z", 1, 4))
	if s.file("/f").Writer != 0 || s.file("/z").Writer != 1 {
		t.Errorf("the Writers are %d and %d", s.file("/f").Writer, s.file("/z").Writer)
	}
	s.nothing(evAppend(1, "/f", "x"), impl.WrongHolder)
	s.then(evReopen(4, "/f"), 0, "")
	s.leases(leaseOf("/a", 2, 4), leaseOf("/f", 4, 12), leaseOf("/k", 3, 5), leaseOf("/z", 1, 4))
	s.then(evTick(3), 0, "")
	s.leases(leaseOf("/a", 2, 4), leaseOf("/f", 4, 12), leaseOf("/k", 3, 5), leaseOf("/z", 1, 4))
	// Two at once, in the order of their paths, and one stays that was Seen one later.
	s.then(evTick(1), 0, "")
	s.leases(leaseOf("/f", 4, 12), leaseOf("/k", 3, 5))
	log, _ := impl.FileAt(s.now.Server.Disk, impl.NameLog)
	list := []impl.Edit{editCreate("/f", 1), editCreate("/a", 2), editCreate("/z", 1), editCreate("/k", 3), editClose("/f"), editOpen("/f", 4), editClose("/a"), editClose("/z")}
	wantLog(t, "closed by ticks", log, list, len(log))
	s.then(evTick(1), 0, "")
	s.leases(leaseOf("/f", 4, 12))
	// What a tick closes is closed behind a fall, too.
	s.all(evOf(impl.EvFall), evOf(impl.EvRise))
	for p, writer := range map[string]int{"/f": 4, "/k": 0, "/a": 0, "/z": 0} {
		if got := s.file(p).Writer; got != writer {
			t.Errorf("behind a fall the Writer of %s is %d, want %d", p, got, writer)
		}
	}
	// Behind a fall nobody has a lease, so no tick closes.
	s.all(evTick(9), evTick(9))
	if got := s.file("/f").Writer; got != 4 {
		t.Errorf("behind ticks the Writer is %d", got)
	}
}

// All eight at once, and a file that is in use is closed by a tick of nine as well.
func TestLeasesThatATickTakesAwayAtOnce(t *testing.T) {
	var events []impl.Event
	for i := range 8 {
		events = append(events, evCreate(1+i, fmt.Sprintf("/n%d", 7-i)))
	}
	s := storyOf(t, "eight leases", events...)
	s.nothing(evCreate(9, "/n8"), impl.WrongHolder)
	s.all(evTick(9), evTick(2))
	s.nothing(evCreate(9, "/n8"), impl.WrongHolder)
	s.then(evTick(9), 0, "")
	s.leases()
	for i := range 8 {
		if got := s.file(fmt.Sprintf("/n%d", i)).Writer; got != 0 {
			t.Errorf("/n%d has the Writer %d", i, got)
		}
	}
	s.then(evCreate(9, "/n8"), 0, "")
	s.leases(leaseOf("/n8", 9, 20))
}

// What is appended does not renew a lease.
func TestAppendsDoNotRenewLeases(t *testing.T) {
	s := storyOf(t, "a lease", evCreate(1, "/f"), evTick(9), evAppend(1, "/f", "x"), evTick(2))
	s.leases(leaseOf("/f", 1, 0))
	s.then(evAppend(1, "/f", "y"), 0, "")
	s.then(evTick(1), 0, "")
	s.leases()
	s.reads("/f", "xy")
}

func TestServersThatFallInLives(t *testing.T) {
	s := storyOf(t, "a server", append(fileOf(1, 3, "/f", "hall"), evTick(5))...)
	s.nothing(evOf(impl.EvRise), 1)
	s.then(evOf(impl.EvFall), 0, "")
	want := cloneServer(s.was.Server)
	want.Up, want.Leases = false, nil
	wantServer(t, "fallen", s.now.Server, want)
	for _, at := range []int{0, 1, 9, 10, 12, math.MaxInt} {
		s.nothing(evTick(at), 1)
	}
	for _, rule := range askRules() {
		s.nothing(evAsk(rule.right()), impl.Down)
		s.nothing(cutWith(evAsk(rule.right()), 7), impl.Down)
	}
	s.nothing(evRead("/f"), impl.Down)
	s.nothing(evOf(impl.EvFall), 1)
	s.then(evOf(impl.EvRise), 0, "")
	wantServer(t, "risen", s.now.Server, mustRestart(t, "a server", s.was.Server))
	if s.now.Server.Now != 5 || s.now.Server.Groups != 22 {
		t.Errorf("risen: %s", tellServer(s.now.Server))
	}
	s.nothing(evOf(impl.EvRise), 1)
	s.reads("/f", "hall")
	for i := range 10 {
		s.then(evOf(impl.EvFall), 0, "")
		s.then(evOf(impl.EvRise), 0, "")
		if groups := s.now.Server.Groups; groups != 42+20*i {
			t.Errorf("behind fall %d %d is next", i+2, groups)
		}
	}
	s.reads("/f", "hall")
	first := storyOf(t, "first of all", evOf(impl.EvFall))
	first.nothing(evOf(impl.EvFall), 1)
	first.then(evOf(impl.EvRise), 0, "")
	first.nothing(evOf(impl.EvRise), 1)
}

// Hosts go their own ways, whether the server is Up or not, and what is lost is mended.
func TestHostsWhenTheServerIsNotUp(t *testing.T) {
	s := storyOf(t, "hosts", append(fileOf(1, 3, "/f", "hall and door"), evOf(impl.EvFall))...)
	s.then(evHost(impl.EvHostDown, 1), 0, "")
	s.then(evHost(impl.EvHostUp, 1), 0, "")
	s.then(evSpoil(1, 3), 0, "")
	s.then(evOf(impl.EvMend), 0, "")
	s.then(evHost(impl.EvLose, 2), 0, "")
	s.then(evOf(impl.EvMend), 0, "")
	s.nothing(evOf(impl.EvMend), 1)
	s.then(evOf(impl.EvRise), 0, "")
	s.nothing(evOf(impl.EvMend), 1)
	s.reads("/f", "hall and door")
}

func TestHostsThatAreSoAlready(t *testing.T) {
	for host := 1; host <= impl.MaxHosts; host++ {
		s := storyOf(t, "hosts")
		s.nothing(evHost(impl.EvHostUp, host), 1)
		s.nothing(evHost(impl.EvLose, host), 1)
		s.nothing(evSpoil(host, 0), 1)
		s.nothing(evOf(impl.EvMend), 1)
		s.then(evHost(impl.EvHostDown, host), 0, "")
		for at, h := range s.now.Hosts {
			if h.Up != (at != host-1) {
				t.Errorf("host %d is down: %s", host, tellHosts(s.now.Hosts))
			}
		}
		s.nothing(evHost(impl.EvHostDown, host), 1)
		s.nothing(evHost(impl.EvLose, host), 1)
		s.then(evHost(impl.EvHostUp, host), 0, "")
		s.nothing(evHost(impl.EvHostUp, host), 1)
		wantHosts(t, "up again", s.now.Hosts, upHosts(7))

		s.all(fileOf(3, 1, "/f", strings.Repeat("hall", 15))...)
		s.then(evHost(impl.EvHostDown, host), 0, "")
		if load := impl.LoadOf(s.now.Hosts[host-1]); load < 1 {
			t.Errorf("host %d has %d units when it is down", host, load)
		}
		// A host that is down is lost as well.
		s.then(evHost(impl.EvLose, host), 0, "")
		s.nothing(evHost(impl.EvLose, host), 1)
		s.nothing(evSpoil(host, 5), 1)
		s.then(evHost(impl.EvHostUp, host), 0, "")
		s.nothing(evHost(impl.EvLose, host), 1)
		for at, h := range s.now.Hosts {
			if (impl.LoadOf(h) == 0) != (at == host-1) || !h.Up {
				t.Errorf("host %d is lost: %s", host, tellHosts(s.now.Hosts))
			}
		}
	}
}

// The unit and the byte in it are both told by At.
func TestUnitsThatAreSpoiltInLives(t *testing.T) {
	s := storyOf(t, "units", append(fileOf(1, 3, "/f", drawn(185, 60), drawn(186, 60)), evHost(impl.EvHostDown, 7))...)
	for host := 1; host <= impl.MaxHosts; host++ {
		h := s.now.Hosts[host-1]
		count := impl.LoadOf(h)
		if count < 2 {
			t.Fatalf("host %d has just %d units", host, count)
		}
		for _, at := range []int{0, 1, 2, count - 1, count, count + 1, 2*count - 1, 2 * count, 7 * count, 99, 1 << 33, math.MaxInt - 1, math.MaxInt} {
			one := s.aside(fmt.Sprintf("host %d at %d", host, at))
			one.then(evSpoil(host, at), 0, "")
			u := h.Units[at%count]
			want := cloneHost(h)
			want.Units[at%count].Text = turned(u.Text, at%len(u.Text), 1)
			if got := one.now.Hosts[host-1]; !sameHost(got, want) {
				t.Errorf("%s: %s, want %s", one.what, tellHost(got), tellHost(want))
			}
			for other := range one.now.Hosts {
				if other != host-1 && !sameHost(one.now.Hosts[other], s.now.Hosts[other]) {
					t.Errorf("%s: host %d is another one", one.what, other+1)
				}
			}
			// What is spoilt is spoilt no more, be it the same byte or another one.
			one.nothing(evSpoil(host, at%count), 1)
			one.nothing(evSpoil(host, at%count+count), 1)
			one.then(evSpoil(host, at%count+1), 0, "")
		}
	}
}

// An append with too few hosts changes nothing, and is done when they are Up again.
func TestAppendsWithTooFewHosts(t *testing.T) {
	for _, c := range schemas() {
		for _, length := range []int{1, c.size(), c.size() + 1, 60} {
			text := drawn(187+length, length)
			s := storyOf(t, fmt.Sprintf("schema %d, %d bytes", c.s, length), fileOf(c.s, 3, "/f", "first")...)
			for host := impl.MaxHosts; host > c.all(); host-- {
				s.then(evHost(impl.EvHostDown, host), 0, "")
			}
			enough := s.aside("just enough")
			enough.then(evAppend(3, "/f", text), 0, "")
			enough.reads("/f", "first"+text)
			s.then(evHost(impl.EvHostDown, 1), 0, "")
			s.nothing(evAppend(3, "/f", text), impl.NoHosts)
			s.nothing(evAppend(3, "/f", text), impl.NoHosts)
			// The power does not go where no record would come.
			s.nothing(cutWith(evAppend(3, "/f", text), 99), impl.NoHosts)
			s.then(evHost(impl.EvHostUp, 7), 0, "")
			s.then(evAppend(3, "/f", text), 0, "")
			want := []impl.Size{{Group: 1, Text: "first"}}
			for from := 0; from < length; from += c.size() {
				want = append(want, impl.Size{Group: len(want) + 1, Text: text[from:min(length, from+c.size())]})
			}
			s.sizes(want...)
			s.reads("/f", "first"+text)
			if s.now.Server.Groups != len(want)+1 {
				t.Errorf("%s: %d is the next group", s.what, s.now.Server.Groups)
			}
			none := s.aside("no host")
			for _, h := range none.now.Hosts {
				if h.Up {
					none.then(evHost(impl.EvHostDown, h.Id), 0, "")
				}
			}
			none.nothing(evAppend(3, "/f", text), impl.NoHosts)
			none.nothing(evRead("/f"), impl.LostData)
		}
	}
}

// Each group is told by its part of the text, from where the last append ended on.
func TestSizesBehindAppends(t *testing.T) {
	for _, c := range schemas() {
		s := storyOf(t, fmt.Sprintf("schema %d", c.s), evSchema("/", c.s), evCreate(1, "/f"), evCreate(2, "/g"))
		var want []impl.Size
		texts := map[string]string{}
		for i, length := range []int{1, c.size() - 1, c.size(), c.size() + 1, 60, 59, 2, 33} {
			p, text := []string{"/f", "/g"}[i%2], drawn(190+i, length)
			s.then(evAppend(1+i%2, p, text), 0, "")
			texts[p] += text
			for from := 0; from < length; from += c.size() {
				want = append(want, impl.Size{Group: len(want) + 1, Text: text[from:min(length, from+c.size())]})
			}
			s.sizes(want...)
			for _, size := range want {
				if got := impl.SizeOf(s.now.Sizes, size.Group); got != size {
					t.Errorf("%s: SizeOf %d = %s, want %s", s.what, size.Group, inShort(got), inShort(size))
				}
			}
			if got := impl.SizeOf(s.now.Sizes, len(want)+1); got != (impl.Size{}) {
				t.Errorf("%s: SizeOf a group that is not written = %s", s.what, inShort(got))
			}
		}
		for p, text := range texts {
			s.reads(p, text)
		}
		// The sizes stay when their file is gone.
		s.then(evDrop(1, "/f"), 0, "")
		s.sizes(want...)
	}
}

func TestReadsOfWhatIsNotThere(t *testing.T) {
	s := storyOf(t, "reads", evMake("/d"), evCreate(1, "/d/f"), evCreate(2, "/g"))
	s.reads("/d/f", "")
	s.nothing(evRead("/d"), impl.NotFound)
	s.nothing(evRead("/d/g"), impl.NotFound)
	s.nothing(evRead("/d/f/f"), impl.NotFound)
	s.nothing(evRead("/a/b/c/d"), impl.NotFound)
	s.nothing(evRead("/h"), impl.NotFound)
	for _, p := range append(pathsOfEachDepth(), "/d", "/d/g", "", "d", "/d/", "/d/f/") {
		wantNoText(t, "reads", s.now, p)
	}
	s.all(evAppend(2, "/g", strings.Repeat("0123456789", 5)))
	s.reads("/g", strings.Repeat("0123456789", 5))
	s.then(evAppend(1, "/d/f", "hall"), 0, "")
	// The units of "hall" lie on the hosts 6, 7 and 1: they have least.
	s.reads("/d/f", "hall")
	s.then(evHost(impl.EvLose, 6), 0, "")
	s.reads("/d/f", "hall")
	s.then(evHost(impl.EvHostDown, 7), 0, "")
	s.nothing(evRead("/d/f"), impl.LostData)
	wantNoText(t, "lost", s.now, "/d/f")
	s.then(evHost(impl.EvHostUp, 7), 0, "")
	s.reads("/d/f", "hall")
	// One group that is lost, be it the first, one between, or the last one, and the file is.
	for _, group := range []int{1, 2, 4} {
		one := storyOf(t, fmt.Sprintf("group %d is lost", group), fileOf(1, 2, "/g", strings.Repeat("0123456789", 6))...)
		for at, h := range one.now.Hosts {
			for i, u := range h.Units {
				if u.Group == group && u.Index > 0 {
					one.then(evSpoil(at+1, i), 0, "")
				}
			}
		}
		one.nothing(evRead("/g"), impl.LostData)
		wantNoText(t, one.what, one.now, "/g")
		for _, piece := range one.file("/g").Pieces {
			if want := 3; piece.Group != group && impl.LeftOf(one.now.Hosts, 1, piece.Group) != want {
				t.Errorf("%s: of the group %d units are missed", one.what, piece.Group)
			}
		}
	}
}

// Who creates or opens what another one has gets no lease; nor does one whose record is refused.
func TestLeasesBehindAsksThatAreRefused(t *testing.T) {
	s := storyOf(t, "leases", evMake("/d"), evCreate(1, "/f"), evTick(3))
	s.nothing(evCreate(2, "/f"), impl.WrongHolder)
	s.nothing(evReopen(2, "/f"), impl.WrongHolder)
	s.nothing(evCreate(1, "/f"), impl.Exists)
	s.nothing(evReopen(1, "/f"), impl.WrongHolder)
	s.leases(leaseOf("/f", 1, 0))
	s.then(evTick(1), 0, "")
	s.nothing(evCreate(2, "/f"), impl.WrongHolder)
	// From SoftTime on another one may take it, but the file is there: the lease stays its holder's.
	s.then(evTick(1), 0, "")
	s.nothing(evCreate(2, "/f"), impl.Exists)
	s.nothing(evReopen(2, "/f"), impl.WrongHolder)
	s.leases(leaseOf("/f", 1, 0))
	s.then(evAppend(1, "/f", "still"), 0, "")
	for _, p := range []string{"/d", "/no/f", "/f/f", "/d/no/f"} {
		code := map[string]int{"/d": impl.Exists, "/no/f": impl.NotFound, "/f/f": impl.NotDir, "/d/no/f": impl.NotFound}[p]
		s.nothing(evCreate(4, p), code)
		s.leases(leaseOf("/f", 1, 0))
	}
	s.nothing(evReopen(4, "/d"), impl.NotDir)
	s.nothing(evReopen(4, "/no"), impl.NotFound)
	s.leases(leaseOf("/f", 1, 0))
	s.then(evClose(1, "/f"), 0, "")
	s.nothing(evCreate(4, "/f"), impl.Exists)
	s.leases()
	s.then(evReopen(4, "/f"), 0, "")
	s.leases(leaseOf("/f", 4, 5))
}

// below has a life in which leases of 1 and 2 stand at and below paths of alike beginnings.
func below(t *testing.T, what string) *story {
	t.Helper()
	return storyOf(t, what, evMake("/d"), evMake("/d/e"), evCreate(1, "/d/f"), evCreate(1, "/d/e/g"), evCreate(2, "/d0"), evCreate(2, "/dd"), evCreate(1, "/a"))
}

func TestLeasesBehindMovesAndDrops(t *testing.T) {
	held := []impl.Lease{leaseOf("/a", 1, 0), leaseOf("/d/e/g", 1, 0), leaseOf("/d/f", 1, 0), leaseOf("/d0", 2, 0), leaseOf("/dd", 2, 0)}
	for _, c := range []struct {
		p    string
		who  int
		code int
		gone []int
	}{
		{"/d", 1, 0, []int{1, 2}}, {"/d", 2, impl.WrongHolder, nil}, {"/d", 9, impl.WrongHolder, nil},
		{"/d/e", 1, 0, []int{1}}, {"/d/e", 2, impl.WrongHolder, nil},
		{"/d/f", 1, 0, []int{2}}, {"/d/f", 2, impl.WrongHolder, nil},
		{"/d/e/g", 1, 0, []int{1}}, {"/d/e/g", 3, impl.WrongHolder, nil},
		{"/d0", 2, 0, []int{3}}, {"/d0", 1, impl.WrongHolder, nil}, {"/dd", 2, 0, []int{4}}, {"/a", 1, 0, []int{0}},
		{"/no", 2, impl.NotFound, nil},
	} {
		var want []impl.Lease
		for i, l := range held {
			if !slices.Contains(c.gone, i) {
				want = append(want, l)
			}
		}
		for what, e := range map[string]impl.Event{"moved": evMove(c.who, c.p, "/x"), "dropped": evDrop(c.who, c.p)} {
			s := below(t, c.p+" is "+what)
			s.leases(held...)
			if c.code != 0 {
				s.nothing(e, c.code)
				continue
			}
			s.then(e, 0, "")
			s.leases(want...)
		}
	}
	// What is moved keeps its Writer; who closes it may open it again.
	s := below(t, "moved")
	s.then(evMove(1, "/d", "/x"), 0, "")
	s.nothing(evAppend(1, "/x/f", "hall"), impl.WrongHolder)
	s.nothing(evReopen(1, "/x/f"), impl.WrongHolder)
	s.then(evClose(7, "/x/f"), 0, "")
	s.then(evReopen(7, "/x/f"), 0, "")
	s.then(evAppend(7, "/x/f", "hall"), 0, "")
	s.reads("/x/f", "hall")
	// Behind a move another one may create what was there, with a lease of its own.
	s.then(evCreate(4, "/d"), 0, "")
	s.then(evAppend(4, "/d", "door"), 0, "")
	s.nothing(evMove(4, "/x", "/y"), impl.WrongHolder)
	s.then(evMove(7, "/x", "/y"), 0, "")
	s.leases(leaseOf("/a", 1, 0), leaseOf("/d", 4, 0), leaseOf("/d0", 2, 0), leaseOf("/dd", 2, 0))
	s.reads("/y/f", "hall")
	s.reads("/d", "door")
}

// A close takes the lease of its own path alone.
func TestLeasesBehindCloses(t *testing.T) {
	s := below(t, "closed")
	s.nothing(evClose(1, "/d"), impl.NotDir)
	s.nothing(evClose(2, "/d/f"), impl.WrongHolder)
	s.then(evClose(1, "/d/f"), 0, "")
	s.leases(leaseOf("/a", 1, 0), leaseOf("/d/e/g", 1, 0), leaseOf("/d0", 2, 0), leaseOf("/dd", 2, 0))
	s.nothing(evClose(1, "/d/f"), impl.WrongHolder)
	s.then(evClose(2, "/d0"), 0, "")
	s.leases(leaseOf("/a", 1, 0), leaseOf("/d/e/g", 1, 0), leaseOf("/dd", 2, 0))
}

// A drop takes units of all files below it from hosts that are Up; those that are down keep theirs.
func TestDropsWithHostsThatAreDown(t *testing.T) {
	ahead := []impl.Event{
		evMake("/d"), evMake("/d/e"), evSchema("/d/e", 3), evCreate(1, "/d/f"), evCreate(1, "/d/e/g"), evCreate(2, "/d0"),
		evAppend(1, "/d/f", drawn(200, 40)), evAppend(2, "/d0", drawn(201, 60)), evAppend(1, "/d/e/g", drawn(202, 33)), evAppend(1, "/d/f", "x"), evAppend(2, "/d0", "y"),
		evClose(1, "/d/f"), evClose(1, "/d/e/g"), evClose(2, "/d0"),
	}
	for down := range 1 << impl.MaxHosts {
		if down%5 > 1 {
			continue
		}
		events := slices.Clone(ahead)
		for host := 1; host <= impl.MaxHosts; host++ {
			if down>>(host-1)&1 == 1 {
				events = append(events, evHost(impl.EvHostDown, host))
			}
		}
		for _, p := range []string{"/d", "/d/e/g", "/d0"} {
			before := mustRun(t, "ahead", events)
			w := mustRun(t, "dropped", append(slices.Clone(events), evDrop(9, p)))
			groups := impl.GroupsOf(before.Server.Tree, impl.FindPath(before.Server.Tree, p))
			if len(groups) < 2 || w.Codes[len(w.Codes)-1] != 0 {
				t.Fatalf("%s has the groups %d, the codes are %d", p, groups, w.Codes)
			}
			for at, h := range w.Hosts {
				want := cloneHost(before.Hosts[at])
				if want.Up {
					want.Units = slices.DeleteFunc(want.Units, func(u impl.Unit) bool { return slices.Contains(groups, u.Group) })
				}
				if !sameHost(h, want) {
					t.Fatalf("%s is dropped: %s, want %s", p, tellHost(h), tellHost(want))
				}
			}
		}
	}
	// What stays on a host that was down is in nobody's way.
	s := storyOf(t, "left behind", ahead...)
	s.all(evHost(impl.EvHostDown, 1), evHost(impl.EvHostDown, 2), evDrop(1, "/d"), evHost(impl.EvHostUp, 1), evHost(impl.EvHostUp, 2))
	s.reads("/d0", drawn(201, 60)+"y")
	s.all(evCreate(3, "/d"), evAppend(3, "/d", "new"))
	s.reads("/d", "new")
	s.nothing(evOf(impl.EvMend), 1)
	// Spoilt units go as well.
	spoilt := storyOf(t, "spoilt", append(fileOf(1, 3, "/f", "hall"), evSpoil(1, 0), evDrop(3, "/f"))...)
	wantHosts(t, "spoilt", spoilt.now.Hosts, upHosts(7))
}

func TestMendsOfWholeLives(t *testing.T) {
	s := storyOf(t, "mends", evMake("/d"), evSchema("/d", 3), evCreate(1, "/d/f"), evCreate(2, "/g"),
		evAppend(1, "/d/f", drawn(203, 60)), evAppend(2, "/g", drawn(204, 60)), evAppend(1, "/d/f", "x"))
	s.nothing(evOf(impl.EvMend), 1)
	s.then(evHost(impl.EvLose, 4), 0, "")
	s.then(evOf(impl.EvMend), 0, "")
	for _, node := range []impl.Inode{s.file("/d/f"), s.file("/g")} {
		c, _ := schemaFor(node.Schema)
		for _, piece := range node.Pieces {
			wantApart(t, "mended", s.now.Hosts, c, piece.Group)
		}
	}
	s.nothing(evOf(impl.EvMend), 1)
	// Where too many are lost of one group the others are mended all the same.
	for at, h := range s.now.Hosts {
		for i, u := range h.Units {
			if u.Group == 1 && u.Index < 3 {
				s.then(evSpoil(at+1, i), 0, "")
			}
		}
	}
	s.nothing(evOf(impl.EvMend), 1)
	s.then(evHost(impl.EvLose, 7), 0, "")
	s.then(evOf(impl.EvMend), 0, "")
	s.nothing(evRead("/d/f"), impl.LostData)
	s.reads("/g", drawn(204, 60))
	// The units of a group that needs all hosts but one find no host when two are down.
	s.all(evHost(impl.EvHostDown, 1), evHost(impl.EvHostDown, 2))
	one := s.aside("again and again")
	for range 3 {
		one.events = append(one.events, evOf(impl.EvMend))
		one.now = mustRun(t, one.what, one.events)
	}
	one.nothing(evOf(impl.EvMend), 1)
}

// cutLives has for each kind of ask that changes the tree the events ahead of it.
func cutLives() map[string]struct {
	ahead []impl.Event
	e     impl.Event
} {
	ahead := []impl.Event{evMake("/d"), evCreate(1, "/d/f"), evAppend(1, "/d/f", "hall and door"), evCreate(2, "/g"), evTick(3)}
	closed := append(slices.Clone(ahead), evClose(1, "/d/f"))
	lives := map[string]struct {
		ahead []impl.Event
		e     impl.Event
	}{
		"make": {ahead, evMake("/d/e")}, "create": {ahead, evCreate(3, "/d/h")}, "append": {ahead, evAppend(1, "/d/f", drawn(205, 60))},
		"append one byte": {ahead, evAppend(1, "/d/f", "x")}, "close": {ahead, evClose(1, "/d/f")}, "move": {ahead, evMove(1, "/d", "/e")},
		"drop": {ahead, evDrop(1, "/d")}, "schema": {ahead, evSchema("/d", 3)}, "quota": {ahead, evQuota("/", 100)}, "reopen": {closed, evReopen(4, "/d/f")},
		"first of all": {nil, evMake("/d")},
	}
	return lives
}

// lefts are all that may be left of a log of so many bytes in which so many more were added.
func lefts(kept, added int) [][]int {
	list := [][]int{nil, {}, {-1}, {0}, {math.MinInt}, {math.MaxInt}, {kept + added, 9, 9}, append([]int{kept}, make([]int, 29)...), slices.Repeat([]int{math.MaxInt}, 30)}
	for n := max(0, kept-2); n <= kept+added+2; n++ {
		list = append(list, []int{n})
	}
	return list
}

// A cut ask is there behind the rise whole or not at all; units that were written stay.
func TestAsksThatAreCut(t *testing.T) {
	for what, life := range cutLives() {
		s := storyOf(t, what, life.ahead...)
		ahead := s.now
		record := plainEditOf(life.e.Ask)
		log, _ := impl.FileAt(ahead.Server.Disk, impl.NameLog)
		whole := log + logText(record)
		done := s.aside("done")
		done.then(life.e, 0, "")
		for _, left := range lefts(len(log), len(whole)-len(log)) {
			cut := s.aside(fmt.Sprintf("cut, %d left", left))
			cut.then(cutWith(life.e, left...), impl.Down, "")
			n := 0
			if len(left) > 0 {
				n = max(0, min(left[0], len(whole)))
			}
			want := cloneServer(ahead.Server)
			want.Up, want.Leases, want.Disk = false, nil, logAlone(whole[:max(n, len(log))])
			wantServer(t, cut.what, cut.now.Server, want)
			// Hosts and sizes are those behind the writing of an append; a drop has not come to its units.
			wantSized := ahead
			if record.Kind == impl.EdAdd {
				wantSized = done.now
			}
			wantHosts(t, cut.what, cut.now.Hosts, wantSized.Hosts)
			cut.sizes(wantSized.Sizes...)
			cut.nothing(evRead("/d/f"), impl.Down)
			cut.then(evOf(impl.EvRise), 0, "")
			tree, groups := ahead.Server.Tree, ahead.Server.Groups
			if n == len(whole) {
				tree, groups = done.now.Server.Tree, done.now.Server.Groups
			}
			if now := cut.now.Server; !sameTree(now.Tree, tree) || now.Groups != groups+20 || len(now.Leases) != 0 || !now.Up || now.Now != ahead.Server.Now {
				t.Fatalf("%s: risen as %s", cut.what, tellServer(now))
			}
			wantHosts(t, cut.what+", risen", cut.now.Hosts, wantSized.Hosts)
			cut.sizes(wantSized.Sizes...)
		}
	}
}

// The groups of a cut append are never given again, whether its record came into the log or not.
func TestGroupsOfACutAppend(t *testing.T) {
	for _, c := range schemas() {
		for _, keep := range []bool{true, false} {
			s := storyOf(t, fmt.Sprintf("schema %d, kept %v", c.s, keep), fileOf(c.s, 1, "/f", "hall")...)
			text, given := "hall", map[int]string{1: "hall"}
			for round := range 5 {
				more := drawn(206+round, 60-round)
				left := 0
				if keep {
					left = math.MaxInt
					text += more
				}
				s.then(cutWith(evAppend(1, "/f", more), left), impl.Down, "")
				s.then(evOf(impl.EvRise), 0, "")
				s.reads("/f", text)
				s.all(evClose(2, "/f"), evReopen(1, "/f"))
				s.then(evAppend(1, "/f", "door"), 0, "")
				text += "door"
				s.reads("/f", text)
			}
			for i, size := range s.now.Sizes {
				if i > 0 && given[size.Group] != "" {
					t.Errorf("%s: the group %d is given twice", s.what, size.Group)
				}
				given[size.Group] = size.Text
			}
			// Units of appends that were lost lie where they were written.
			for group, text := range given {
				wantReadAs(t, s.what, s.now.Hosts, c.s, group, text)
			}
			if len(given) < 5*3 {
				t.Errorf("%s: just %d groups were given", s.what, len(given))
			}
		}
	}
}

// What a cut drop has not dropped is still read.
func TestDropsThatAreCut(t *testing.T) {
	s := storyOf(t, "a cut drop", append(fileOf(2, 1, "/f", "hall"), cutDrop(0)[0])[:3]...)
	for _, keep := range []bool{false, true} {
		one := s.aside(fmt.Sprintf("kept %v", keep))
		left := 0
		if keep {
			left = math.MaxInt
		}
		one.then(cutDrop(left)[0], impl.Down, "")
		one.then(evOf(impl.EvRise), 0, "")
		if keep {
			one.nothing(evRead("/f"), impl.NotFound)
			wantHosts(t, one.what+": its units stay", one.now.Hosts, s.now.Hosts)
			continue
		}
		one.reads("/f", "hall")
		one.then(evDrop(1, "/f"), 0, "")
		wantHosts(t, one.what+": its units are gone", one.now.Hosts, upHosts(7))
	}
}

func cutDrop(left int) []impl.Event { return []impl.Event{cutWith(evDrop(1, "/f"), left)} }

// A read has no record, so it can't be cut; an ask that has a code ahead of its record can't, either.
func TestAsksThatComeToNoCut(t *testing.T) {
	s := storyOf(t, "no cut", evMake("/d"), evCreate(1, "/f"), evAppend(1, "/f", "hall"))
	for _, left := range [][]int{nil, {0}, {math.MaxInt}} {
		s.then(cutWith(evRead("/f"), left...), 0, "hall")
		s.nothing(cutWith(evRead("/d"), left...), impl.NotFound)
		s.nothing(cutWith(evMake("/d"), left...), impl.Exists)
		s.nothing(cutWith(evAppend(2, "/f", "x"), left...), impl.WrongHolder)
		s.nothing(cutWith(evAppend(1, "/d", "x"), left...), impl.WrongHolder)
		s.nothing(cutWith(evClose(2, "/f"), left...), impl.WrongHolder)
		s.nothing(cutWith(evMove(1, "/f", "/d"), left...), impl.Exists)
		s.nothing(cutWith(evDrop(2, "/f"), left...), impl.WrongHolder)
		s.nothing(cutWith(evSchema("/f", 2), left...), impl.NotDir)
		s.nothing(cutWith(evQuota("/", 3), left...), impl.OverQuota)
		s.nothing(cutWith(evReopen(2, "/f"), left...), impl.WrongHolder)
		s.nothing(cutWith(evCreate(2, "/f"), left...), impl.WrongHolder)
	}
	s.reads("/f", "hall")
	// Of these two the code of the record is that of their commit, in the place of which the power goes.
	for what, e := range map[string]impl.Event{"there already": evCreate(1, "/f"), "no parent": evCreate(1, "/no/f"), "open already": evReopen(1, "/f"), "none": evReopen(1, "/no"), "a directory": evReopen(1, "/d")} {
		for _, left := range []int{0, 1 << 40} {
			one := s.aside(what)
			one.then(cutWith(e, left), impl.Down, "")
			one.leases()
			one.then(evOf(impl.EvRise), 0, "")
			if !sameTree(one.now.Server.Tree, s.now.Server.Tree) {
				t.Errorf("%s: %s", one.what, tellServer(one.now.Server))
			}
			one.reads("/f", "hall")
		}
	}
	// Cut says nothing of other events.
	for kind := 2; kind <= 9; kind++ {
		want := mustRun(t, "without Cut", append(slices.Clone(s.events), evOf(kind)))
		wantWorld(t, "with Cut", mustRun(t, "with Cut", append(slices.Clone(s.events), cutWith(evOf(kind), 4))), want)
	}
}

// Left alone, without Cut, says nothing; nor does an ask of an event that is none.
func TestFieldsThatSayNothing(t *testing.T) {
	events := append(fileOf(1, 1, "/f", "hall"), evTick(11), evSpoil(2, 5), evHost(impl.EvHostDown, 3), evOf(impl.EvMend), evRead("/f"), evOf(impl.EvFall), evOf(impl.EvRise), evRead("/f"))
	want := mustRun(t, "bare", events)
	other := cloneEvents(events)
	for i := range other {
		other[i].Left = []int{i, -i, 1 << 40}
		if other[i].Kind != impl.EvAsk {
			other[i].Ask = impl.Ask{Kind: impl.AskDrop, Who: 1, Path: "/f"}
		} else {
			other[i].At = 7
		}
		if k := other[i].Kind; k != impl.EvHostDown && k != impl.EvSpoil {
			other[i].Host = 7
		}
	}
	wantWorld(t, "with much else", mustRun(t, "with much else", other), want)
	for i := range other {
		if other[i].Kind != impl.EvAsk {
			other[i].Ask = impl.Ask{Kind: 99, Who: -1, Path: "no path"}
		}
	}
	wantWorld(t, "with wrong asks", mustRun(t, "with wrong asks", other), want)
}

func TestTextsOfFiles(t *testing.T) {
	hosts := upHosts(7)
	tree := hall()
	texts := map[string]string{}
	for at := range tree.Nodes {
		for i := range tree.Nodes[at].Pieces {
			node := &tree.Nodes[at]
			node.Pieces[i].Group = 10*node.Id + i
			text := drawn(210+node.Pieces[i].Group, node.Pieces[i].Len)
			hosts = mustWrite(t, "a file", hosts, node.Schema, node.Pieces[i].Group, text)
			texts[hallPaths()[node.Id]] += text
		}
	}
	texts["/b"] = ""
	for _, up := range []bool{true, false} {
		w := impl.World{Server: impl.Server{Up: up, Tree: tree}, Hosts: hosts}
		for id, p := range hallPaths() {
			if text, ok := texts[p]; ok {
				wantText(t, "a hall", w, p, text)
			} else {
				wantNoText(t, fmt.Sprintf("the directory %d", id), w, p)
			}
		}
		for what, p := range textsThatAreNoPaths() {
			wantNoText(t, what, w, p)
		}
		w.Hosts = nil
		wantText(t, "no hosts", w, "/b", "")
		wantNoText(t, "no hosts", w, "/a/b")
	}
	// Of several groups it wants all, and of each as many bytes as the piece has.
	w := impl.World{Server: impl.Server{Tree: tree}, Hosts: hosts}
	whole := texts["/a/a/a"]
	for i, piece := range tree.Nodes[2].Pieces {
		for n := -1; n <= 26; n++ {
			w.Server.Tree = changed(tree, 2, func(node *impl.Inode) { node.Pieces[i].Len = n })
			if n < 0 || n > 24 {
				wantNoText(t, "a Len that is none", w, "/a/a/a")
				continue
			}
			from := 24 * i
			text := whole[from:][:min(n, piece.Len)] + strings.Repeat("\x00", max(0, n-piece.Len))
			if _, ok := plainText(w, "/a/a/a"); ok {
				wantText(t, "a Len", w, "/a/a/a", whole[:from]+text+whole[from+piece.Len:])
			}
		}
		w.Server.Tree = changed(tree, 2, func(node *impl.Inode) { node.Pieces[i].Group = 99 })
		wantNoText(t, "no such group", w, "/a/a/a")
	}
	w.Server.Tree = changed(tree, 2, func(node *impl.Inode) { node.Pieces = append(node.Pieces, node.Pieces...) })
	wantText(t, "each twice", w, "/a/a/a", whole+whole)
}

// wantAsPlainText asks for each path that a tree may have.
func wantAsPlainText(t *testing.T, what string, w impl.World) int {
	t.Helper()
	before := cloneWorld(w)
	told := 0
	for _, p := range []string{"/", "/a", "/b", "/d", "/d/f", "/d/g", "/d/e/h", "/r", "/f", "/g", "/G", "", "/a/a/a", "/d/", "x"} {
		want, ok := plainText(w, p)
		if ok {
			told++
			wantText(t, what, w, p, want)
		} else {
			wantNoText(t, what, w, p)
		}
	}
	if !sameWorld(w, before) {
		t.Fatalf("%s: the world is another one", what)
	}
	return told
}

func TestTextsOfWorldsThatAreNotRight(t *testing.T) {
	hosts := upHosts(7)
	for _, c := range schemas() {
		for group := 1; group <= 3; group++ {
			if group == c.s {
				hosts = mustWrite(t, "hosts", hosts, c.s, group, drawn(230, c.size()))
			}
		}
	}
	told := 0
	for what, tree := range treesThatAreNotRight() {
		told += wantAsPlainText(t, what, impl.World{Server: impl.Server{Tree: tree}, Hosts: hosts})
		told += wantAsPlainText(t, what, impl.World{Server: impl.Server{Tree: tree}})
	}
	for what, h := range wrongHosts() {
		for _, tree := range []impl.Tree{shed(), hall(), treeOf(rootNode(), fileNode(2, 1, "f", 1, 3))} {
			told += wantAsPlainText(t, what, impl.World{Server: impl.Server{Tree: tree}, Hosts: []impl.Host{h}})
			told += wantAsPlainText(t, what, impl.World{Server: impl.Server{Tree: tree}, Hosts: append([]impl.Host{h, h}, hosts...)})
		}
	}
	if told < 50 {
		t.Errorf("just %d texts were told", told)
	}
	node := func(id int, change func(node *impl.Inode)) impl.Tree {
		file := fileNode(id, 1, "f", 1, 16)
		change(&file)
		return impl.Tree{Nodes: []impl.Inode{rootNode(), file}, Next: 3}
	}
	for _, far := range append(farNumbers(), -1, 0, 1, 2, 3, 4) {
		for what, tree := range map[string]impl.Tree{
			"a Schema": node(2, func(node *impl.Inode) { node.Schema = far }),
			"a Group":  node(2, func(node *impl.Inode) { node.Pieces[0].Group = far }),
			"a Len":    node(2, func(node *impl.Inode) { node.Pieces[0].Len = far }),
			"an Id":    node(far, func(node *impl.Inode) {}),
			"a Parent": node(2, func(node *impl.Inode) { node.Parent = far }),
			"no root":  {Nodes: []impl.Inode{fileNode(far, 0, "", 1, 16), fileNode(2, far, "f", 1, 16)}, Next: far},
		} {
			wantAsPlainText(t, what, impl.World{Server: impl.Server{Tree: tree}, Hosts: hosts})
		}
	}
	// A node with the Id 0 is told by no path.
	zero := impl.Tree{Nodes: []impl.Inode{rootNode(), fileNode(0, 1, "f", 1, 16)}, Next: 2}
	wantNoText(t, "the Id 0", impl.World{Server: impl.Server{Tree: zero}, Hosts: hosts}, "/f")
	wantNoText(t, "the Id 0, another path", impl.World{Server: impl.Server{Tree: zero}, Hosts: hosts}, "/g")
	// A root that is a file is one.
	file := fileNode(1, 0, "", 1, 16)
	wantText(t, "a root that is a file", impl.World{Server: impl.Server{Tree: treeOf(file)}, Hosts: hosts}, "/", drawn(230, 16))
}

func TestTextsOfManyPieces(t *testing.T) {
	hosts := mustWrite(t, "hosts", upHosts(3), 1, 1, "0123456789abcdef")
	tree := treeOf(rootNode(), fileNode(2, 1, "f", 1))
	tree.Nodes[1].Pieces = slices.Repeat([]impl.Piece{{Group: 1, Len: 16}}, 20000)
	w := impl.World{Server: impl.Server{Tree: tree}, Hosts: hosts}
	wantText(t, "many pieces", w, "/f", strings.Repeat("0123456789abcdef", 20000))
	w.Server.Tree = manyNodes(3000)
	wantNoText(t, "many nodes", w, "/no")
	var sizes []impl.Size
	for n := range 100000 {
		sizes = append(sizes, impl.Size{Group: n % 1000, Text: "text"})
	}
	if got := impl.SizeOf(sizes, 1000); got != (impl.Size{}) {
		t.Errorf("many sizes: %+v", got)
	}
}

// event draws an event about what the world has, so that most of its asks come to something.
func (d *draw) event(w impl.World) impl.Event {
	e := impl.Event{Host: 1 + d.below(7), At: d.below(14)}
	if d.below(6) == 0 {
		e.At = []int{0, 9, 10, 11, 19, 1 << 40, math.MaxInt}[d.below(7)]
	}
	switch kind := d.below(100); {
	case !w.Server.Up && d.below(3) > 0:
		e.Kind = impl.EvRise
	case !w.Server.Up && d.below(6) == 0:
		e.Kind = impl.EvFall
	case kind < 64:
		e.Kind, e.Ask = impl.EvAsk, d.askNear(w.Server)
	case kind < 71:
		e.Kind = impl.EvTick
	case kind < 75:
		e.Kind = impl.EvHostDown
	case kind < 82:
		e.Kind = impl.EvHostUp
	case kind < 84:
		e.Kind = impl.EvLose
	case kind < 89:
		e.Kind = impl.EvSpoil
	case kind < 94:
		e.Kind = impl.EvMend
	case kind < 96:
		e.Kind = impl.EvFall
	default:
		e.Kind = impl.EvRise
	}
	if d.below(20) == 0 {
		log, _ := impl.FileAt(w.Server.Disk, impl.NameLog)
		e = cutWith(e, len(log)+d.below(60)-5, 4)
		e.Left = e.Left[:d.below(3)]
	}
	return e
}

// askNear draws a right ask of a path that is there, or below one, most often by who has its lease.
func (d *draw) askNear(s impl.Server) impl.Ask {
	var files, dirs []string
	for _, node := range s.Tree.Nodes {
		p := strings.TrimSuffix(plainTold(s.Tree, node.Id).Path, "/")
		if node.Dir {
			dirs = append(dirs, p)
		} else {
			files = append(files, p)
		}
	}
	fresh := func() string {
		above := dirs
		if len(files) > 0 && d.below(12) == 0 {
			above = files
		}
		return above[d.below(len(above))] + "/" + []string{"a", "aa", "b", "c"}[d.below(4)]
	}
	rule := askRules()[[]int{0, 1, 1, 2, 2, 2, 2, 3, 4, 5, 6, 6, 6, 7, 8, 9, 9}[d.below(17)]]
	q := rule.right()
	q.Who, q.Path, q.To = 1+d.below(3), fresh(), ""
	isOld := slices.Contains([]int{3, 4, 7, 10}, rule.kind) || d.below(3) == 0 && rule.kind != 1
	if isOld && len(files) > 0 && d.below(8) > 0 {
		q.Path = files[d.below(len(files))]
	}
	if rule.top && d.below(2) == 0 || rule.kind == 5 && d.below(2) == 0 || rule.kind == 6 && d.below(6) == 0 {
		q.Path = max(dirs[d.below(len(dirs))], "/a")
	}
	if rule.to {
		q.To = fresh()
	}
	if d.below(20) == 0 {
		q.Path = ninePaths()[d.below(9)]
	}
	if strings.Count(q.Path, "/") > 4 {
		q.Path = "/a"
	}
	if strings.Count(q.To, "/") > 4 {
		q.To = "/b"
	}
	if count := len(s.Leases); rule.kind == 3 && count > 0 && d.below(5) > 0 {
		q.Path = s.Leases[d.below(count)].Path
	}
	if holder := plainHolder(s.Leases, q.Path); holder > 0 && d.below(6) > 0 {
		q.Who = holder
	}
	q.Num += d.below(rule.num[1] - rule.num[0] + 1)
	if rule.kind == 9 && d.below(4) > 0 {
		q.Num = d.below(80)
	}
	if rule.kind == 3 {
		q.Text = d.text(1 + d.below([]int{3, 20, 60}[d.below(3)]))
	}
	return q
}

// wantWritten holds what the world tells of each of its files against what was written.
func wantWritten(t *testing.T, what string, w impl.World) {
	t.Helper()
	for _, node := range w.Server.Tree.Nodes {
		if node.Dir {
			continue
		}
		p, want := impl.PathOf(w.Server.Tree, node.Id), ""
		for _, piece := range node.Pieces {
			want += impl.SizeOf(w.Sizes, piece.Group).Text
		}
		if text, ok := impl.TextOf(w, p); ok && text != want {
			t.Fatalf("%s: TextOf %s = %q, want %q", what, p, text, want)
		}
	}
}

// In a drawn life codes are what the document tells.
func TestLivesThatAreDrawn(t *testing.T) {
	d := draw(188)
	codes := map[[3]int]int{}
	told, cut := 0, 0
	for life := range 700 {
		w := plainWorldNew()
		var events []impl.Event
		for range 60 {
			e, wasUp := d.event(w), w.Server.Up
			events = append(events, e)
			w = plainStep(w, e)
			if e.Kind == impl.EvAsk && wasUp && !w.Server.Up {
				cut++
			}
		}
		got := mustRun(t, "a drawn life", events)
		wantWritten(t, "a drawn life", got)
		for i, e := range events {
			codes[[3]int{e.Kind, e.Ask.Kind, got.Codes[i]}]++
			if got.Told[i] != "" {
				told++
			}
			if got.Told[i] != "" && (e.Ask.Kind != impl.AskRead || got.Codes[i] != 0) {
				t.Fatalf("of %s, with the code %d, is told %q", inShort(e), got.Codes[i], got.Told[i])
			}
		}
		for range 3 {
			upTo := d.below(60)
			part := mustRun(t, "the beginning of a drawn life", events[:upTo])
			if !slices.Equal(part.Codes, got.Codes[:upTo]) || !slices.Equal(part.Told, got.Told[:upTo]) {
				t.Fatalf("life %d up to %d has the codes %d, not %d", life, upTo, part.Codes, got.Codes[:upTo])
			}
		}
	}
	wantKinds(t, codes)
	if told < 900 || cut < 300 {
		t.Errorf("just %d reads told something, and %d asks were cut", told, cut)
	}
}

// wantKinds asks whether each code came of each kind that may have it in a drawn life.
func wantKinds(t *testing.T, codes map[[3]int]int) {
	t.Helper()
	for kind, list := range map[int][]int{2: {0, 1}, 3: {0, 1}, 4: {0, 1}, 5: {0, 1}, 6: {0, 1}, 7: {0, 1}, 8: {0, 1}, 9: {0, 1}} {
		for _, code := range list {
			if count := codes[[3]int{kind, 0, code}]; count < 15 {
				t.Errorf("just %d events of the kind %d had the code %d", count, kind, code)
			}
		}
	}
	for kind, list := range map[int][]int{
		1: {0, 1, 2, 3, 11}, 2: {0, 1, 2, 3, 6, 11}, 3: {0, 5, 6, 9, 11}, 4: {0, 1, 6, 11}, 5: {0, 1, 2, 3, 6, 7, 11},
		6: {0, 1, 6, 11}, 7: {0, 1, 10, 11}, 8: {0, 1, 3, 11}, 9: {0, 1, 3, 5, 11}, 10: {0, 1, 6, 11},
	} {
		for _, code := range list {
			if count := codes[[3]int{1, kind, code}]; count < 5 {
				t.Errorf("just %d asks of the kind %d had the code %d", count, kind, code)
			}
		}
	}
}

// Lives of any events at all, most of which are refused as a whole.
func TestLivesOfAnyEvents(t *testing.T) {
	d := draw(189)
	right := 0
	paths := append(ninePaths(), "/b", "/", "", "/A", "x")
	for range 3000 {
		var events []impl.Event
		for range d.below(7) {
			e := impl.Event{Kind: 1 + d.below(9), Ask: d.ask(paths), Host: 1 + d.below(7), At: d.below(30), Cut: d.below(3) == 0, Left: d.left()}
			switch d.below(25) {
			case 0:
				e.Kind = []int{0, 10, -1, math.MaxInt, math.MinInt}[d.below(5)]
			case 1:
				e.Host = []int{0, 8, -1, math.MaxInt, math.MinInt}[d.below(5)]
			case 2:
				e.At = []int{-1, math.MinInt, math.MaxInt}[d.below(3)]
			case 3:
				e.Left = make([]int, 28+d.below(6))
			}
			events = append(events, e)
		}
		if _, ok := plainRun(events); ok {
			mustRun(t, "any events", events)
			right++
		} else {
			wantNoLife(t, "any events", events)
		}
	}
	if right < 1000 || right > 2500 {
		t.Errorf("%d of 3000 lives were right", right)
	}
}

func scribbleWorld(w impl.World) {
	scribbleServer(w.Server)
	scribbleHosts(w.Hosts)
	scribbleNumbers(w.Codes)
	told, sizes := w.Told[:cap(w.Told)], w.Sizes[:cap(w.Sizes)]
	for i := range told {
		told[i] = "scribble"
	}
	for i := range sizes {
		sizes[i] = impl.Size{Group: -1, Text: "scribble"}
	}
}

// livesForMemory end with files, leases, sizes, and something told.
func livesForMemory() map[string][]impl.Event {
	ahead := []impl.Event{
		evMake("/hall"), evSchema("/hall", 2), evCreate(1, "/hall/door"), evAppend(1, "/hall/door", drawn(231, 60)), evCreate(2, "/yard"), evAppend(2, "/yard", "gate"),
		evRead("/hall/door"), evRead("/yard"), evTick(3), evSpoil(1, 0), evOf(impl.EvMend),
	}
	with := func(events ...impl.Event) []impl.Event { return append(slices.Clone(ahead), events...) }
	return map[string][]impl.Event{
		"as they are": ahead, "moved": with(evMove(1, "/hall", "/house"), evRead("/house/door")), "dropped": with(evDrop(1, "/hall")),
		"closed": with(evClose(1, "/hall/door"), evReopen(3, "/hall/door")), "risen": with(evOf(impl.EvFall), evOf(impl.EvRise), evRead("/yard")),
		"cut": with(cutWith(evAppend(1, "/hall/door", "half of it"), math.MaxInt)), "cut and risen": with(cutWith(evCreate(4, "/hall/room"), math.MaxInt), evOf(impl.EvRise), evRead("/hall/room")),
		"refused": with(evCreate(5, "/yard"), evReopen(5, "/yard"), evMake("/hall"), evRead("/none")), "ticked": with(evTick(9)), "none": nil,
	}
}

// ownEvents have all their texts in memory of their own, which is told, too.
func ownEvents(events []impl.Event) ([]impl.Event, []string) {
	events = cloneEvents(events)
	var texts []string
	for i := range events {
		q := &events[i].Ask
		for _, text := range []*string{&q.Path, &q.To, &q.Text} {
			*text = ownText(*text)
			texts = append(texts, *text)
		}
	}
	return events, texts
}

func textsOfWorld(w impl.World) []string {
	texts := append(textsOfServer(w.Server), w.Told...)
	for _, size := range w.Sizes {
		texts = append(texts, size.Text)
	}
	for _, h := range w.Hosts {
		for _, u := range h.Units {
			texts = append(texts, u.Text)
		}
	}
	return slices.DeleteFunc(texts, func(text string) bool { return len(text) < 2 })
}

func TestAnswersOfWorldsAreNewMemory(t *testing.T) {
	for what, events := range livesForMemory() {
		events, handed := ownEvents(events)
		handed = slices.DeleteFunc(handed, func(text string) bool { return len(text) < 2 })
		w, ok := impl.RunWorld(events)
		if !ok {
			t.Fatalf("%s: no life", what)
		}
		for _, text := range textsOfWorld(w) {
			wantNewTexts(t, what, []string{text}, handed)
		}
		var own []string
		for _, size := range w.Sizes {
			own = append(own, size.Text)
		}
		wantNewTexts(t, what+", what is told and what was written", slices.DeleteFunc(append(own, w.Told...), func(text string) bool { return len(text) < 2 }), nil)
		for _, p := range []string{"/hall/door", "/yard", "/house/door"} {
			if text, ok := impl.TextOf(w, p); ok {
				wantNewTexts(t, what+", TextOf", []string{text}, textsOfWorld(w))
			}
		}
		for _, size := range w.Sizes {
			wantNewTexts(t, what+", SizeOf", []string{impl.SizeOf(w.Sizes, size.Group).Text}, textsOfWorld(w))
		}
	}
}

func TestEventsAreNotWrittenInto(t *testing.T) {
	mark := evHost(77, 77)
	for what, events := range livesForMemory() {
		roomy := spare(events, mark)
		for i := range roomy {
			roomy[i].Left = spare([]int{math.MaxInt, i}, 44)
		}
		whole := func() []impl.Event {
			all := slices.Clone(roomy[:len(roomy)+3])
			for i := range roomy {
				all[i].Left = slices.Clone(roomy[i].Left[:5])
			}
			return all
		}
		before := whole()
		w := mustRun(t, what, roomy)
		for _, e := range roomy {
			impl.EventOk(e)
		}
		for _, when := range []string{"", ", behind the world is written over"} {
			if !slices.EqualFunc(whole(), before, sameEvent) {
				t.Errorf("%s%s: the events, or what is behind them, are written into", what, when)
			}
			scribbleWorld(w)
		}
	}
}

func TestTextsOfEventsAreNotWrittenInto(t *testing.T) {
	path, to, text := []byte("/hallbehind"), []byte("/doorbehind"), []byte("wordsbehind")
	seen := func(bytes []byte) string { return unsafe.String(&bytes[0], 5) }
	events := []impl.Event{evCreate(1, seen(path)), evAppend(1, seen(path), seen(text)), evRead(seen(path)), evMove(1, seen(path), seen(to)), evCreate(2, seen(path))}
	want := mustRun(t, "texts", events)
	got, _ := impl.RunWorld(events)
	if string(path) != "/hallbehind" || string(to) != "/doorbehind" || string(text) != "wordsbehind" {
		t.Errorf("a text, or what is behind it, is written into: %q, %q, %q", path, to, text)
	}
	clear(path)
	clear(to)
	clear(text)
	wantWorld(t, "written over", got, cloneWorld(want))
	wantText(t, "written over", got, "/door", "words")
	wantLeases(t, "written over", got.Server.Leases, []impl.Lease{leaseOf("/hall", 2, 0)})
	if got.Told[2] != "words" || got.Sizes[0].Text != "words" {
		t.Errorf("written over: %s", tellWorld(got))
	}
}

// roomyWorld has spare room behind each of its lists; whole has all of it.
func roomyWorld(w impl.World) (impl.World, func() impl.World) {
	server, wholeServer := roomyServer(w.Server)
	hosts, wholeHosts := hostsWithRoom(w.Hosts)
	roomy := impl.World{Server: server, Hosts: hosts, Codes: spare(w.Codes, 44), Told: spare(w.Told, "mark"), Sizes: spare(w.Sizes, impl.Size{Group: 44, Text: "mark"})}
	return roomy, func() impl.World {
		return impl.World{
			Server: wholeServer(), Hosts: wholeHosts(), Codes: slices.Clone(roomy.Codes[:len(w.Codes)+3]),
			Told: slices.Clone(roomy.Told[:len(w.Told)+3]), Sizes: slices.Clone(roomy.Sizes[:len(w.Sizes)+3]),
		}
	}
}

func TestWorldsAreNotWrittenInto(t *testing.T) {
	for what, events := range livesForMemory() {
		roomy, whole := roomyWorld(mustRun(t, what, events))
		before := whole()
		for _, p := range append(pathsOfEachDepth(), "/hall/door", "/yard", "/house/door", "/hall", "") {
			impl.TextOf(roomy, p)
		}
		for group := range 40 {
			impl.SizeOf(roomy.Sizes, group)
		}
		wantWorld(t, what+", what was handed in", whole(), before)
	}
}

// No two lists of one answer share memory: each is written over, and the others stay.
func TestListsOfOneWorldAreApart(t *testing.T) {
	for what, events := range livesForMemory() {
		w := mustRun(t, what, events)
		for at := range w.Hosts {
			want := cloneHosts(w.Hosts)
			want[at].Units = nil
			scribbleUnits(w.Hosts[at])
			w.Hosts[at].Units = nil
			wantHosts(t, what, w.Hosts, want)
		}
		for at := range w.Server.Tree.Nodes {
			want := cloneTree(w.Server.Tree)
			want.Nodes[at].Pieces = nil
			pieces := w.Server.Tree.Nodes[at].Pieces
			for i := range pieces[:cap(pieces)] {
				pieces[:cap(pieces)][i] = impl.Piece{Group: -1}
			}
			w.Server.Tree.Nodes[at].Pieces = nil
			if !sameTree(w.Server.Tree, want) {
				t.Errorf("%s: the tree is %+v, want %+v", what, w.Server.Tree, want)
			}
		}
	}
	first, second := impl.WorldNew(), impl.WorldNew()
	scribbleWorld(first)
	wantWorld(t, "another new world", second, plainWorldNew())
}

// Nothing is kept from call to call: a world that is written over is told anew.
func TestLivesAreToldAlikeEachTime(t *testing.T) {
	for what, events := range livesForMemory() {
		want, _ := plainRun(events)
		for range 20 {
			got, ok := impl.RunWorld(events)
			if !ok {
				t.Fatalf("%s: no life", what)
			}
			wantWorld(t, what, got, want)
			scribbleWorld(got)
			scribbleWorld(impl.WorldNew())
			impl.RunWorld([]impl.Event{evMake("/other"), evOf(0)})
		}
	}
}

func TestLivesAreToldAlikeToAllAtOnce(t *testing.T) {
	lives := livesForMemory()
	wants := map[string]impl.World{}
	for what, events := range lives {
		wants[what], _ = plainRun(events)
	}
	var callers sync.WaitGroup
	for range 8 {
		callers.Go(func() {
			for range 5 {
				for what, events := range lives {
					got, ok := impl.RunWorld(events)
					if !ok || !sameWorld(got, wants[what]) {
						t.Errorf("%s: at once with others: %s", what, tellWorld(got))
					}
					text, there := impl.TextOf(wants[what], "/yard")
					want, wantThere := plainText(wants[what], "/yard")
					if text != want || there != wantThere {
						t.Errorf("%s: at once with others TextOf is %q, %v", what, text, there)
					}
				}
			}
		})
	}
	callers.Wait()
}

func TestNoCallOnWorldsPanics(t *testing.T) {
	far := []int{math.MinInt, math.MinInt + 1, -10, -1, 0, 1, 2, 7, 8, 9, 10, math.MaxInt - 1, math.MaxInt}
	texts := []string{"", "/", "/far", "/far/", "far", "\xff\xfe", allBytes(), strings.Repeat("/a", 10001)}
	for _, kind := range far {
		for _, host := range far {
			for _, at := range far {
				e := impl.Event{Kind: kind, Host: host, At: at, Cut: at%2 == 0, Left: []int{kind, host, at}}
				wantEventOk(t, "far numbers", e, plainEventOk(e))
				e.Ask = impl.Ask{Kind: at, Who: kind, Path: "/far", Num: host}
				wantEventOk(t, "far numbers, an ask", e, plainEventOk(e))
				e = evAsk(impl.Ask{Kind: kind, Who: host, Path: "/far", Num: at})
				wantEventOk(t, "an ask of far numbers", e, plainEventOk(e))
			}
		}
	}
	for kind := 1; kind <= 10; kind++ {
		for i, p := range texts {
			for j, to := range texts {
				e := evAsk(impl.Ask{Kind: kind, Who: 1, Path: p, To: to, Text: texts[(i+j)%len(texts)]})
				wantEventOk(t, "texts of any bytes", e, plainEventOk(e))
			}
		}
	}
	s := storyOf(t, "any bytes", evCreate(1, "/far"))
	all := ""
	for from := 0; from < 256; from += 32 {
		s.then(evAppend(1, "/far", allBytes()[from:from+32]), 0, "")
		all += allBytes()[from : from+32]
	}
	s.reads("/far", all)
	for _, left := range far {
		for _, at := range []int{0, 1, 7, math.MaxInt - 1, math.MaxInt} {
			for kind := 2; kind <= 9; kind++ {
				for host := 1; host <= 7; host += 3 {
					e := cutWith(impl.Event{Kind: kind, Host: host, At: at}, left)
					mustRun(t, "far numbers behind a life", append(slices.Clone(s.events[:3]), e, evRead("/far"), evOf(impl.EvRise)))
				}
			}
		}
		mustRun(t, "far ones left", append(slices.Clone(s.events[:3]), cutWith(evAppend(1, "/far", "x"), left), evOf(impl.EvRise), evRead("/far")))
	}
	for _, group := range far {
		for _, other := range far {
			list := []impl.Size{{Group: group, Text: "a"}, {Group: other, Text: "b"}, {Group: group}}
			if got := impl.SizeOf(list, other); got != plainSize(list, other) {
				t.Errorf("SizeOf %d of %+v = %+v", other, list, got)
			}
			file := impl.Inode{Id: group, Parent: other, Name: "far", Schema: 1, Len: group, Pieces: []impl.Piece{{Group: other, Len: group}}}
			w := impl.World{Server: impl.Server{Tree: impl.Tree{Nodes: []impl.Inode{rootNode(), file}, Next: other}, Groups: group, Now: other}, Hosts: []impl.Host{{Id: group, Up: true, Units: []impl.Unit{{Group: other, Index: group, Sum: other}}}}}
			for _, p := range texts {
				want, ok := plainText(w, p)
				if text, got := impl.TextOf(w, p); text != want || got != ok {
					t.Errorf("TextOf %.40q = %q, %v, want %q, %v", p, text, got, want, ok)
				}
			}
		}
	}
}
