package tests

import (
	"cmp"
	"fmt"
	"math"
	"slices"
	"strings"
	"testing"
	"unsafe"

	"loop.example/g00197/impl"
)

// plainSum is SumText in the document's own words.
func plainSum(text string) int {
	return int(sumByBits(math.MaxUint32, text))
}

// unitOf is a unit as it lies on a host.
func unitOf(group, index int, text string) impl.Unit {
	return impl.Unit{Group: group, Index: index, Text: text, Sum: plainSum(text)}
}

func withSum(u impl.Unit, sum int) impl.Unit {
	u.Sum = sum
	return u
}

func hostOf(id int, units ...impl.Unit) impl.Host {
	return impl.Host{Id: id, Up: true, Units: units}
}

func downHost(h impl.Host) impl.Host {
	h.Up = false
	return h
}

func cloneHost(h impl.Host) impl.Host {
	h.Units = slices.Clone(h.Units)
	return h
}

func sameHost(a, b impl.Host) bool {
	return a.Id == b.Id && a.Up == b.Up && slices.Equal(a.Units, b.Units)
}

// storeroom is a host with some units: first and last ones, an empty one, one of 200 bytes, and one that is spoilt.
func storeroom() impl.Host {
	return hostOf(3,
		unitOf(1, 0, "first"),
		unitOf(1, 5, "fifth"),
		unitOf(2, 1, "ab"),
		unitOf(2, 2, ""),
		withSum(unitOf(2, 4, "spoilt"), plainSum("spoiled")),
		unitOf(7, 0, "a"),
		unitOf(255, 3, drawn(140, 200)),
		unitOf(256, 3, "\x00"),
		unitOf(100000, 0, "\xff\xfe"),
		unitOf(100000, 5, "last"),
	)
}

// wrongHosts are not right, each for one cause.
func wrongHosts() map[string]impl.Host {
	a, b := unitOf(4, 2, "a"), unitOf(4, 3, "b")
	return map[string]impl.Host{
		"nothing":                         {Up: true},
		"the Id 0":                        hostOf(0, a),
		"the Id 8":                        hostOf(8, a),
		"an Id below 0":                   hostOf(-1),
		"the greatest Id":                 hostOf(math.MaxInt, a),
		"the least Id":                    hostOf(math.MinInt, a),
		"the Group 0":                     hostOf(1, unitOf(0, 2, "a"), b),
		"the Group 100001":                hostOf(1, a, unitOf(100001, 2, "b")),
		"a Group below 0":                 hostOf(1, unitOf(-1, 2, "a"), b),
		"the least Group":                 hostOf(1, unitOf(math.MinInt, 2, "a"), b),
		"the greatest Group":              hostOf(1, a, unitOf(math.MaxInt, 2, "b")),
		"the Index -1":                    hostOf(1, unitOf(4, -1, "a"), b),
		"the Index 6":                     hostOf(1, a, unitOf(4, 6, "b")),
		"the least Index":                 hostOf(1, unitOf(4, math.MinInt, "a"), b),
		"the greatest Index":              hostOf(1, a, unitOf(4, math.MaxInt, "b")),
		"a Text of 201 bytes":             hostOf(1, a, unitOf(4, 3, strings.Repeat("b", 201))),
		"a Text of many bytes":            hostOf(1, a, unitOf(4, 3, strings.Repeat("b", 30000))),
		"the Sum -1":                      hostOf(1, withSum(a, -1), b),
		"the Sum 4294967296":              hostOf(1, a, withSum(b, 4294967296)),
		"a Sum that wraps round":          hostOf(1, a, withSum(b, b.Sum+1<<32)),
		"one that does so from below":     hostOf(1, a, withSum(b, b.Sum-1<<32)),
		"the least Sum":                   hostOf(1, withSum(a, math.MinInt), b),
		"the greatest Sum":                hostOf(1, a, withSum(b, math.MaxInt)),
		"two of one Group and Index":      hostOf(1, a, unitOf(4, 2, "b")),
		"one twice":                       hostOf(1, a, a),
		"two that stand apart":            hostOf(1, a, b, a),
		"two in the wrong order":          hostOf(1, b, a),
		"Groups in the wrong order":       hostOf(1, unitOf(5, 2, "a"), unitOf(4, 2, "b")),
		"Groups, though Indexes go up":    hostOf(1, unitOf(5, 0, "a"), unitOf(4, 1, "b")),
		"the last two in the wrong order": hostOf(1, a, b, unitOf(9, 0, "c"), unitOf(8, 5, "d")),
	}
}

// plainFirst is the place of the first unit of this Group and Index.
func plainFirst(h impl.Host, group, index int) (int, bool) {
	for i := range h.Units {
		if h.Units[i].Group == group && h.Units[i].Index == index {
			return i, true
		}
	}
	return 0, false
}

func plainHostOk(h impl.Host) bool {
	last := -1
	for _, u := range h.Units {
		if u.Group < 1 || u.Group > 100000 || u.Index < 0 || u.Index > 5 || len(u.Text) > 200 || u.Sum < 0 || u.Sum > 4294967295 {
			return false
		}
		if at := 6*u.Group + u.Index; at > last {
			last = at
		} else {
			return false
		}
	}
	return h.Id >= 1 && h.Id <= 7
}

func plainPut(h impl.Host, u impl.Unit) (impl.Host, bool) {
	if !h.Up || !plainHostOk(h) {
		return h, false
	}
	byPlace := map[int]impl.Unit{}
	for _, other := range h.Units {
		byPlace[6*other.Group+other.Index] = other
	}
	u.Sum = plainSum(u.Text)
	if !plainHostOk(hostOf(h.Id, u)) {
		return h, false
	}
	byPlace[6*u.Group+u.Index] = u
	var places []int
	for at := range byPlace {
		places = append(places, at)
	}
	slices.Sort(places)
	h.Units = nil
	for _, at := range places {
		h.Units = append(h.Units, byPlace[at])
	}
	return h, true
}

func plainGet(h impl.Host, group, index int) (string, bool) {
	i, ok := plainFirst(h, group, index)
	if !ok || !h.Up || h.Units[i].Sum != plainSum(h.Units[i].Text) {
		return "", false
	}
	return h.Units[i].Text, true
}

func plainDrop(h impl.Host, group, index int) (impl.Host, bool) {
	i, ok := plainFirst(h, group, index)
	if !ok {
		return h, false
	}
	h.Units = slices.Concat(h.Units[:i], h.Units[i+1:])
	return h, true
}

func plainSpoil(h impl.Host, group, index, at int) (impl.Host, bool) {
	i, ok := plainFirst(h, group, index)
	if !ok || at < 0 || h.Units[i].Text == "" || h.Units[i].Sum != plainSum(h.Units[i].Text) {
		return h, false
	}
	h = cloneHost(h)
	text := h.Units[i].Text
	h.Units[i].Text = turned(text, at%len(text), 1)
	return h, true
}

// tellHost tells of long texts how they begin.
func tellHost(h impl.Host) string {
	out := fmt.Sprintf("host %d, Up %v:", h.Id, h.Up)
	for _, u := range h.Units {
		out += fmt.Sprintf(" %d.%d %.20q (%d bytes, sum %d)", u.Group, u.Index, u.Text, len(u.Text), u.Sum)
	}
	return fmt.Sprintf("%.600s", out)
}

func wantHostOk(t *testing.T, what string, h impl.Host, want bool) {
	t.Helper()
	for _, up := range []bool{true, false} {
		h.Up = up
		if impl.HostOk(h) != want {
			t.Errorf("%s: HostOk is %v of %s", what, !want, tellHost(h))
		}
	}
}

func wantHost(t *testing.T, what string, got impl.Host, ok bool, want impl.Host, wantOk bool) {
	t.Helper()
	if ok != wantOk || !sameHost(got, want) {
		t.Fatalf("%s: %s, %v, want %s, %v", what, tellHost(got), ok, tellHost(want), wantOk)
	}
}

func wantPut(t *testing.T, what string, h impl.Host, u impl.Unit, want impl.Host) impl.Host {
	t.Helper()
	got, ok := impl.PutUnit(h, u)
	wantHost(t, what+", put", got, ok, want, true)
	if !impl.HostOk(got) {
		t.Errorf("%s: what comes is not right: %s", what, tellHost(got))
	}
	wantGot(t, what, got, u.Group, u.Index, u.Text)
	return got
}

func wantNotPut(t *testing.T, what string, h impl.Host, u impl.Unit) {
	t.Helper()
	before := cloneHost(h)
	got, ok := impl.PutUnit(h, u)
	wantHost(t, what+", put", got, ok, before, false)
}

func wantGot(t *testing.T, what string, h impl.Host, group, index int, want string) {
	t.Helper()
	if text, ok := impl.GetUnit(h, group, index); text != want || !ok {
		t.Errorf("%s: GetUnit of %d, %d = %.40q, %v, want %.40q", what, group, index, text, ok, want)
	}
}

func wantNotGot(t *testing.T, what string, h impl.Host, group, index int) {
	t.Helper()
	if text, ok := impl.GetUnit(h, group, index); text != "" || ok {
		t.Errorf("%s: GetUnit of %d, %d = %.40q, %v", what, group, index, text, ok)
	}
}

func wantNotDropped(t *testing.T, what string, h impl.Host, group, index int) {
	t.Helper()
	before := cloneHost(h)
	got, ok := impl.DropUnit(h, group, index)
	wantHost(t, what+", dropped", got, ok, before, false)
}

func wantNotSpoilt(t *testing.T, what string, h impl.Host, group, index, at int) {
	t.Helper()
	before := cloneHost(h)
	got, ok := impl.Spoil(h, group, index, at)
	wantHost(t, what+", spoilt", got, ok, before, false)
}

// wantNoUnit asks of a Group and Index that no unit of the host has.
func wantNoUnit(t *testing.T, what string, h impl.Host, group, index int) {
	t.Helper()
	wantNotGot(t, what, h, group, index)
	wantNotDropped(t, what, h, group, index)
	wantNotSpoilt(t, what, h, group, index, 0)
}

// wantOthers asks whether all units but one are on a host as they were.
func wantOthers(t *testing.T, what string, before, after impl.Host, group, index int) {
	t.Helper()
	others := func(h impl.Host) []impl.Unit {
		return slices.DeleteFunc(slices.Clone(h.Units), func(u impl.Unit) bool { return u.Group == group && u.Index == index })
	}
	if before.Id != after.Id || before.Up != after.Up || !slices.Equal(others(before), others(after)) {
		t.Errorf("%s: others than %d, %d are changed: %s, not %s", what, group, index, tellHost(after), tellHost(before))
	}
	for _, u := range others(before) {
		text, ok := impl.GetUnit(before, u.Group, u.Index)
		if now, still := impl.GetUnit(after, u.Group, u.Index); now != text || still != ok {
			t.Errorf("%s: of %d, %d is got %.40q, %v, not %.40q, %v", what, u.Group, u.Index, now, still, text, ok)
		}
	}
}

// wantAsPlainHost asks all functions of a host, and of a Group and Index.
func wantAsPlainHost(t *testing.T, what string, h impl.Host, u impl.Unit, at int) {
	t.Helper()
	before := cloneHost(h)
	if ok, want := impl.HostOk(h), plainHostOk(h); ok != want {
		t.Errorf("%s: HostOk = %v of %s", what, ok, tellHost(h))
	}
	got, ok := impl.PutUnit(h, u)
	want, wantOk := plainPut(h, u)
	wantHost(t, what+", PutUnit", got, ok, want, wantOk)
	text, ok := impl.GetUnit(h, u.Group, u.Index)
	if plain, wantOk := plainGet(h, u.Group, u.Index); text != plain || ok != wantOk {
		t.Errorf("%s: GetUnit of %d, %d = %.40q, %v of %s", what, u.Group, u.Index, text, ok, tellHost(h))
	}
	got, ok = impl.DropUnit(h, u.Group, u.Index)
	want, wantOk = plainDrop(h, u.Group, u.Index)
	wantHost(t, what+", DropUnit", got, ok, want, wantOk)
	got, ok = impl.Spoil(h, u.Group, u.Index, at)
	want, wantOk = plainSpoil(h, u.Group, u.Index, at)
	wantHost(t, what+", Spoil", got, ok, want, wantOk)
	if !sameHost(h, before) {
		t.Fatalf("%s: the host is written into: %s, not %s", what, tellHost(h), tellHost(before))
	}
}

// inEachOrder has the numbers below n in ascending, descending and mixed orders.
func inEachOrder(n int) map[string][]int {
	up := make([]int, n)
	for i := range up {
		up[i] = i
	}
	down := slices.Clone(up)
	slices.Reverse(down)
	orders := map[string][]int{"ascending": up, "descending": down}
	for seed := range 12 {
		d := draw(1400 + seed)
		mixed := slices.Clone(up)
		for i := range mixed {
			j := d.below(i + 1)
			mixed[i], mixed[j] = mixed[j], mixed[i]
		}
		orders[fmt.Sprintf("mixed %d", seed)] = mixed
	}
	return orders
}

func TestLimitsOfHosts(t *testing.T) {
	if impl.MaxHosts != 7 {
		t.Errorf("MaxHosts is %d", impl.MaxHosts)
	}
	u := impl.Unit{Group: 1, Index: 2, Text: "three", Sum: 4}
	h := impl.Host{Id: 1, Up: true, Units: []impl.Unit{u}}
	if got := fmt.Sprintf("%+v", h); got != "{Id:1 Up:true Units:[{Group:1 Index:2 Text:three Sum:4}]}" {
		t.Errorf("a host is %s", got)
	}
}

func TestSumsOfTextsAsNumbers(t *testing.T) {
	// The check number of 123456789 is known for this sum with all its bits turned at the end.
	for text, want := range map[string]int{
		"":          4294967295,
		"123456789": 4294967295 - 0x87315576,
		"ab":        plainSum("ab"),
		"\x00":      plainSum("\x00"),
		"\xff":      plainSum("\xff"),
	} {
		if sum := impl.SumText(text); sum != want {
			t.Errorf("SumText(%q) = %d, want %d", text, sum, want)
		}
	}
	d := draw(141)
	high := 0
	for length := range 400 {
		text := d.text(length)
		sum := impl.SumText(text)
		if sum != int(impl.SumOf(text)) || sum != plainSum(text) || sum < 0 || sum > 4294967295 {
			t.Errorf("SumText(%q) = %d, want %d", text, sum, plainSum(text))
		}
		if sum > math.MaxInt32 {
			high++
		}
	}
	if high < 100 || high > 300 {
		t.Errorf("%d of 400 sums have the highest bit", high)
	}
	long := d.text(50000)
	if impl.SumText(long) != plainSum(long) {
		t.Error("a long text has another sum")
	}
}

func TestHostsThatAreRight(t *testing.T) {
	wantHostOk(t, "many units", storeroom(), true)
	wantHostOk(t, "no units", hostOf(1), true)
	wantHostOk(t, "an empty list of units", impl.Host{Id: 1, Units: []impl.Unit{}}, true)
	for id := -3; id <= 12; id++ {
		wantHostOk(t, "an Id", hostOf(id), id >= 1 && id <= 7)
		wantHostOk(t, "an Id", hostOf(id, unitOf(1, 1, "a")), id >= 1 && id <= 7)
	}
	for _, id := range outOfRange(8) {
		wantHostOk(t, "an Id", hostOf(id), false)
	}
	wantHostOk(t, "a Sum that is not that of its Text", hostOf(7, withSum(unitOf(1, 1, "a"), 0)), true)
	all := hostOf(2)
	for group := 1; group <= 40; group++ {
		for index := range 6 {
			all.Units = append(all.Units, unitOf(group, index, "each"))
		}
	}
	wantHostOk(t, "each Index of many Groups", all, true)
}

func TestHostsThatAreNotRight(t *testing.T) {
	for what, h := range wrongHosts() {
		wantHostOk(t, what, h, false)
		for _, u := range []impl.Unit{unitOf(4, 2, "new"), unitOf(4, 3, "new"), unitOf(6, 1, "new"), unitOf(1, 0, ""), {}} {
			wantNotPut(t, what, h, u)
			wantNotPut(t, what+", not Up", downHost(h), u)
		}
	}
}

func TestUnitsThatAHostMayHave(t *testing.T) {
	low, high := unitOf(1, 0, "low"), unitOf(100000, 5, "high")
	for name, edges := range map[string]struct {
		change func(u *impl.Unit, n int)
		right  []int
		wrong  []int
	}{
		"Group": {func(u *impl.Unit, n int) { u.Group = n }, []int{1, 2, 99999, 100000}, append(outOfRange(100001), 0)},
		"Index": {func(u *impl.Unit, n int) { u.Index = n }, []int{0, 1, 2, 3, 4, 5}, outOfRange(6)},
		"Sum": {func(u *impl.Unit, n int) { u.Sum = n }, []int{0, 1, math.MaxInt32, 1 << 31, 4294967294, 4294967295},
			[]int{-1, -2, 4294967296, 4294967297, 1 << 33, -1 << 32, -4294967295, math.MaxInt, math.MinInt, math.MinInt32, 1 << 62}},
		"length": {func(u *impl.Unit, n int) { u.Text = strings.Repeat("x", n) }, []int{0, 1, 199, 200}, []int{201, 202, 255, 256, 257, 456, 20000}},
	} {
		for _, n := range edges.right {
			u := unitOf(50, 3, "between")
			edges.change(&u, n)
			wantHostOk(t, fmt.Sprintf("the %s %d", name, n), hostOf(1, u), true)
		}
		for _, n := range edges.wrong {
			u := unitOf(50, 3, "between")
			edges.change(&u, n)
			for what, h := range map[string]impl.Host{
				"alone":   hostOf(1, u),
				"first":   hostOf(1, u, high),
				"last":    hostOf(1, low, u),
				"between": hostOf(1, low, u, high),
			} {
				wantHostOk(t, fmt.Sprintf("the %s %d, %s", name, n, what), h, false)
			}
		}
	}
}

func TestOrderOfUnits(t *testing.T) {
	for a := range 18 {
		for b := range 18 {
			h := hostOf(4, unitOf(1+a/6, a%6, "a"), unitOf(1+b/6, b%6, "b"))
			wantHostOk(t, "two units", h, a < b)
			h.Units = append(h.Units, unitOf(9, 0, "c"))
			wantHostOk(t, "two units and one behind", h, a < b)
			h.Units = slices.Insert(h.Units, 0, unitOf(1, 0, "d"))
			wantHostOk(t, "two units and one ahead", h, a < b && a > 0)
		}
	}
}

func TestUnitsPutInEachOrder(t *testing.T) {
	d := draw(142)
	var units []impl.Unit
	for _, group := range []int{1, 2, 3, 10, 127, 128, 255, 256, 65535, 65536, 99999, 100000} {
		for index := range 6 {
			units = append(units, unitOf(group, index, d.text(d.below(201))))
		}
	}
	for id := 1; id <= 7; id++ {
		for order, places := range inEachOrder(len(units)) {
			what := fmt.Sprintf("host %d, %s", id, order)
			h := hostOf(id)
			for n, at := range places {
				handed := withSum(units[at], []int{0, units[at].Sum, -1, math.MaxInt, math.MinInt, 4294967296, n}[n%7])
				here := slices.Clone(places[:n+1])
				slices.Sort(here)
				want := hostOf(id)
				for _, one := range here {
					want.Units = append(want.Units, units[one])
				}
				h = wantPut(t, what, h, handed, want)
			}
			for _, u := range units {
				wantGot(t, what, h, u.Group, u.Index, u.Text)
			}
			if !slices.Equal(h.Units, units) {
				t.Errorf("%s: in the end it is %s", what, tellHost(h))
			}
		}
	}
}

func TestUnitsPutWithAnySum(t *testing.T) {
	sums := append(outOfRange(4294967296), 0, 1, 4294967295, plainSum("ab"), plainSum("ba"))
	for _, sum := range sums {
		u := impl.Unit{Group: 2, Index: 1, Text: "ab", Sum: sum}
		wantPut(t, "alone", hostOf(1), u, hostOf(1, unitOf(2, 1, "ab")))
		wantPut(t, "in the place of itself", hostOf(1, unitOf(2, 1, "ab")), u, hostOf(1, unitOf(2, 1, "ab")))
		u.Text = ""
		wantPut(t, "without a Text", hostOf(1), u, hostOf(1, unitOf(2, 1, "")))
	}
}

func TestUnitsPutInThePlaceOfOthers(t *testing.T) {
	room := storeroom()
	for i, old := range room.Units {
		for _, text := range []string{"", "a", "ab", old.Text, "new " + old.Text[:min(len(old.Text), 190)], drawn(143, 200)} {
			want := cloneHost(room)
			want.Units[i] = unitOf(old.Group, old.Index, text)
			got := wantPut(t, "in its place", room, impl.Unit{Group: old.Group, Index: old.Index, Text: text, Sum: old.Sum}, want)
			wantOthers(t, "in its place", room, got, old.Group, old.Index)
			again := wantPut(t, "once more", got, unitOf(old.Group, old.Index, text), want)
			wantPut(t, "and back", again, old, func() impl.Host {
				back := cloneHost(room)
				back.Units[i].Sum = plainSum(old.Text)
				return back
			}())
		}
	}
}

func TestUnitsPutBetweenOthers(t *testing.T) {
	room := storeroom()
	for group := range 12 {
		for index := range 6 {
			u := unitOf(group, index, "new")
			if group == 0 {
				u.Group = 99999
			}
			want, ok := plainPut(room, u)
			if !ok {
				t.Fatalf("%d, %d is not put", u.Group, u.Index)
			}
			got := wantPut(t, "between", room, u, want)
			wantOthers(t, "between", room, got, u.Group, u.Index)
			if _, was := plainFirst(room, u.Group, u.Index); !was && len(got.Units) != len(room.Units)+1 {
				t.Errorf("behind %d, %d there are %d units", u.Group, u.Index, len(got.Units))
			}
		}
	}
}

func TestUnitsThatAreNotPut(t *testing.T) {
	long := strings.Repeat("l", 201)
	var wrong []impl.Unit
	for _, far := range append(outOfRange(100001), 0) {
		wrong = append(wrong, unitOf(far, 1, "ab"))
	}
	for _, far := range outOfRange(6) {
		wrong = append(wrong, unitOf(2, far, "ab"))
	}
	wrong = append(wrong, unitOf(2, 1, long), unitOf(9, 1, long), unitOf(2, 1, long+long), unitOf(2, 1, strings.Repeat("l", 50000)), impl.Unit{}, impl.Unit{Text: "ab"})
	for _, h := range []impl.Host{hostOf(1), hostOf(7, unitOf(2, 1, "old")), storeroom()} {
		for _, u := range wrong {
			wantNotPut(t, "a wrong unit", h, u)
			wantNotPut(t, "a wrong unit, not Up", downHost(h), u)
		}
		for _, u := range []impl.Unit{unitOf(1, 0, "a"), unitOf(2, 1, "b"), unitOf(5, 5, ""), unitOf(100000, 5, "c")} {
			wantNotPut(t, "not Up", downHost(h), u)
		}
	}
	for _, length := range []int{0, 1, 199, 200} {
		text := drawn(144, length)
		wantPut(t, "a Text within the limit", hostOf(1), unitOf(3, 3, text), hostOf(1, unitOf(3, 3, text)))
	}
}

func TestPutAtTheEdges(t *testing.T) {
	for id := 0; id <= 8; id++ {
		for _, group := range []int{0, 1, 100000, 100001} {
			for index := -1; index <= 6; index++ {
				h, u := hostOf(id), unitOf(group, index, "edge")
				if id < 1 || id > 7 || group < 1 || group > 100000 || index < 0 || index > 5 {
					wantNotPut(t, "an edge", h, u)
				} else {
					wantPut(t, "an edge", h, u, hostOf(id, u))
				}
			}
		}
	}
}

func TestWhatIsGot(t *testing.T) {
	room := storeroom()
	for _, u := range room.Units {
		if u.Text == "spoilt" {
			wantNotGot(t, "spoilt", room, u.Group, u.Index)
		} else {
			wantGot(t, "sound", room, u.Group, u.Index, u.Text)
		}
		wantNotGot(t, "not Up", downHost(room), u.Group, u.Index)
	}
	wantGot(t, "without a Text", hostOf(1, unitOf(2, 1, "")), 2, 1, "")
	wantNotGot(t, "without a Text and a Sum", hostOf(1, impl.Unit{Group: 2, Index: 1}), 2, 1)
	for _, sum := range append(outOfRange(4294967296), 0, 1, 4294967295, plainSum("a")+1, plainSum("a")-1, plainSum("b"), plainSum("a")+1<<32, plainSum("a")-1<<32) {
		wantNotGot(t, "another Sum", hostOf(1, withSum(unitOf(2, 1, "a"), sum)), 2, 1)
	}
}

// The document wants of what is got, dropped and spoilt no host that is right.
func TestWhatIsOnHostsThatAreNotRight(t *testing.T) {
	for what, h := range wrongHosts() {
		seen := map[[2]int]bool{}
		for _, u := range h.Units {
			if seen[[2]int{u.Group, u.Index}] {
				continue
			}
			seen[[2]int{u.Group, u.Index}] = true
			for _, h := range []impl.Host{h, downHost(h)} {
				for _, at := range []int{0, 1, -1, math.MaxInt, math.MinInt} {
					wantAsPlainHost(t, what, h, u, at)
				}
			}
		}
		wantNoUnit(t, what, h, 3, 3)
	}
	twins := hostOf(1, unitOf(4, 2, "one"), unitOf(4, 2, "two"))
	wantGot(t, "the first of two", twins, 4, 2, "one")
	rest, ok := impl.DropUnit(twins, 4, 2)
	wantHost(t, "the first of two is dropped", rest, ok, hostOf(1, unitOf(4, 2, "two")), true)
	spoilt, ok := impl.Spoil(twins, 4, 2, 0)
	wantHost(t, "the first of two is spoilt", spoilt, ok, hostOf(1, withSum(unitOf(4, 2, "nne"), plainSum("one")), unitOf(4, 2, "two")), true)
	wantNotGot(t, "the first of two is spoilt", spoilt, 4, 2)
}

func TestWhatIsNotThere(t *testing.T) {
	room := storeroom()
	for _, h := range []impl.Host{room, downHost(room), hostOf(1), downHost(hostOf(1)), {}, hostOf(0)} {
		for group := range 12 {
			for index := -2; index < 9; index++ {
				if _, ok := plainFirst(h, group, index); !ok {
					wantNoUnit(t, "not there", h, group, index)
				}
			}
		}
		for _, far := range append(outOfRange(100001), 0) {
			wantNoUnit(t, "a far Group", h, far, 0)
			wantNoUnit(t, "a far Group", h, far, 5)
			wantNoUnit(t, "both far", h, far, far)
		}
		for _, far := range outOfRange(6) {
			wantNoUnit(t, "a far Index", h, 2, far)
			wantNoUnit(t, "a far Index", h, 100000, far)
		}
		wantNoUnit(t, "Index and Group the other way round", h, 0, 7)
	}
	// A Group of one and an Index of another unit.
	wantNoUnit(t, "crossed", hostOf(1, unitOf(2, 1, "a"), unitOf(3, 4, "b")), 2, 4)
	wantNoUnit(t, "crossed", hostOf(1, unitOf(2, 1, "a"), unitOf(3, 4, "b")), 3, 1)
	wantNoUnit(t, "turned", hostOf(1, unitOf(2, 1, "a"), unitOf(3, 4, "b")), 1, 2)
}

func TestWhatIsDropped(t *testing.T) {
	for _, h := range []impl.Host{storeroom(), downHost(storeroom())} {
		for i, u := range h.Units {
			want := cloneHost(h)
			want.Units = slices.Delete(want.Units, i, i+1)
			got, ok := impl.DropUnit(h, u.Group, u.Index)
			wantHost(t, "dropped", got, ok, want, true)
			wantOthers(t, "dropped", h, got, u.Group, u.Index)
			wantNoUnit(t, "dropped", got, u.Group, u.Index)
			wantHostOk(t, "dropped", got, true)
			if h.Up {
				back := cloneHost(h)
				back.Units[i].Sum = plainSum(u.Text)
				wantPut(t, "put again", got, u, back)
			}
		}
	}
	for order, places := range inEachOrder(len(storeroom().Units)) {
		h := storeroom()
		units := slices.Clone(h.Units)
		for n, at := range places {
			got, ok := impl.DropUnit(h, units[at].Group, units[at].Index)
			if !ok || len(got.Units) != len(places)-1-n {
				t.Fatalf("%s: behind %d drops: %s, %v", order, n+1, tellHost(got), ok)
			}
			wantOthers(t, order, h, got, units[at].Group, units[at].Index)
			h = got
		}
		if !sameHost(h, hostOf(3)) {
			t.Errorf("%s: in the end it is %s", order, tellHost(h))
		}
	}
}

func TestUnitsWithAnotherSumAreDropped(t *testing.T) {
	for _, text := range []string{"", "a", "spoilt"} {
		for _, sum := range []int{0, 1, 4294967295, -1, 4294967296} {
			u := withSum(unitOf(2, 1, text), sum)
			if sum == plainSum(text) {
				continue
			}
			h := hostOf(1, unitOf(2, 0, "ahead"), u, unitOf(2, 2, "behind"))
			for _, h := range []impl.Host{h, downHost(h)} {
				wantNotGot(t, "another Sum", h, 2, 1)
				wantNotSpoilt(t, "another Sum", h, 2, 1, 0)
				got, ok := impl.DropUnit(h, 2, 1)
				want := cloneHost(h)
				want.Units = []impl.Unit{h.Units[0], h.Units[2]}
				wantHost(t, "another Sum, dropped", got, ok, want, true)
			}
		}
	}
}

// wantSpoilt spoils a unit at one place and asks what it is then.
func wantSpoilt(t *testing.T, h impl.Host, u impl.Unit, at int) {
	t.Helper()
	what := fmt.Sprintf("spoilt at %d", at)
	got, ok := impl.Spoil(h, u.Group, u.Index, at)
	if !ok || len(got.Units) != len(h.Units) {
		t.Fatalf("%s: %s, %v", what, tellHost(got), ok)
	}
	wantOthers(t, what, h, got, u.Group, u.Index)
	i, _ := plainFirst(got, u.Group, u.Index)
	now := got.Units[i]
	if now.Sum != u.Sum || len(now.Text) != len(u.Text) {
		t.Fatalf("%s: it is %s", what, tellHost(got))
	}
	for place := range len(u.Text) {
		bits := byte(0)
		if place == at%len(u.Text) {
			bits = 1
		}
		if now.Text[place] != u.Text[place]^bits {
			t.Errorf("%s: byte %d is %d, it was %d", what, place, now.Text[place], u.Text[place])
		}
	}
	wantHostOk(t, what, got, true)
	wantNotGot(t, what, got, u.Group, u.Index)
	for _, more := range []int{at, at + 1, 0, 1, math.MaxInt} {
		wantNotSpoilt(t, what+" already", got, u.Group, u.Index, more)
	}
	wantDroppedAndPut(t, what, got, u)
}

// wantDroppedAndPut asks whether a unit that is spoilt can be dropped, and whether one that is put in its place is got.
func wantDroppedAndPut(t *testing.T, what string, h impl.Host, u impl.Unit) {
	t.Helper()
	rest, ok := impl.DropUnit(h, u.Group, u.Index)
	if !ok {
		t.Errorf("%s: it is not dropped", what)
	}
	wantOthers(t, what+", dropped", h, rest, u.Group, u.Index)
	h.Up = true
	mended, ok := impl.PutUnit(h, u)
	if !ok {
		t.Errorf("%s: none is put in its place", what)
	}
	wantGot(t, what+", mended", mended, u.Group, u.Index, u.Text)
	wantOthers(t, what+", mended", h, mended, u.Group, u.Index)
}

func TestWhatIsSpoilt(t *testing.T) {
	for _, h := range []impl.Host{storeroom(), downHost(storeroom())} {
		for _, u := range h.Units {
			if u.Text == "" || u.Text == "spoilt" {
				continue
			}
			n := len(u.Text)
			for _, at := range []int{0, 1, n - 1, n, n + 1, 2*n - 1, 2 * n, 1000*n + n/2, 1 << 32, 1<<40 + 3, math.MaxInt - 1, math.MaxInt} {
				wantSpoilt(t, h, u, at)
			}
			for _, at := range []int{-1, -2, -n, -n - 1, -1000 * n, math.MinInt32, math.MinInt + 1, math.MinInt} {
				wantNotSpoilt(t, "below 0", h, u.Group, u.Index, at)
			}
		}
	}
}

func TestEachByteIsSpoilt(t *testing.T) {
	for _, length := range []int{1, 2, 3, 200} {
		u := unitOf(9, 2, drawn(145, length))
		h := hostOf(5, unitOf(9, 1, "ahead"), u, unitOf(9, 3, "behind"))
		for at := range 2*length + 3 {
			wantSpoilt(t, h, u, at)
		}
	}
	for b := range 256 {
		u := unitOf(9, 2, string([]byte{byte(b)}))
		wantSpoilt(t, hostOf(5, u), u, 7)
	}
}

func TestUnitsThatAreNotSpoilt(t *testing.T) {
	empty := hostOf(1, unitOf(2, 1, "ahead"), unitOf(2, 2, ""), impl.Unit{Group: 2, Index: 3}, unitOf(2, 4, "behind"))
	for _, h := range []impl.Host{empty, downHost(empty)} {
		for _, at := range []int{0, 1, -1, math.MaxInt, math.MinInt} {
			wantNotSpoilt(t, "without a Text", h, 2, 2, at)
			wantNotSpoilt(t, "without a Text and a Sum", h, 2, 3, at)
		}
	}
	wantGot(t, "without a Text", empty, 2, 2, "")
	wantPut(t, "without a Text", hostOf(1), impl.Unit{Group: 2, Index: 2}, hostOf(1, unitOf(2, 2, "")))
	for _, sum := range []int{0, 1, 4294967295, plainSum("bb"), plainSum("ab") + 1<<32, -1} {
		h := hostOf(1, withSum(unitOf(2, 1, "ab"), sum))
		for at := range 5 {
			wantNotSpoilt(t, "another Sum", h, 2, 1, at)
		}
	}
}

func TestHostsWithoutUnits(t *testing.T) {
	for _, h := range []impl.Host{hostOf(1), {Id: 7, Up: true, Units: []impl.Unit{}}, downHost(hostOf(4)), {}} {
		wantNoUnit(t, "no units", h, 1, 0)
		wantNoUnit(t, "no units", h, 0, 0)
		wantNoUnit(t, "no units", h, math.MinInt, math.MaxInt)
	}
	wantNotPut(t, "nothing at all", impl.Host{}, unitOf(1, 0, "a"))
	wantNotPut(t, "not Up", impl.Host{Id: 1}, unitOf(1, 0, "a"))
	wantPut(t, "no units", impl.Host{Id: 7, Up: true, Units: []impl.Unit{}}, unitOf(1, 0, "a"), hostOf(7, unitOf(1, 0, "a")))
	got, ok := impl.DropUnit(hostOf(7, unitOf(1, 0, "a")), 1, 0)
	wantHost(t, "the last one dropped", got, ok, hostOf(7), true)
}

// What is put, spoilt and dropped while a host is not Up is seen when it is Up again.
func TestHostsThatGoDownAndUp(t *testing.T) {
	h := downHost(storeroom())
	h, _ = impl.DropUnit(h, 1, 0)
	h, _ = impl.Spoil(h, 1, 5, 3)
	wantNotPut(t, "not Up", h, unitOf(1, 0, "first"))
	for _, u := range h.Units {
		wantNotGot(t, "not Up", h, u.Group, u.Index)
	}
	h.Up = true
	wantNoUnit(t, "up again", h, 1, 0)
	wantNotGot(t, "up again", h, 1, 5)
	wantGot(t, "up again", h, 2, 1, "ab")
	wantGot(t, "up again", h, 100000, 5, "last")
	if i, _ := plainFirst(h, 1, 5); h.Units[i] != withSum(unitOf(1, 5, "fifuh"), plainSum("fifth")) {
		t.Errorf("up again: %s", tellHost(h))
	}
}

// unit draws a unit, most of which are right.
func (d *draw) unit() impl.Unit {
	u := impl.Unit{Group: 1 + d.below(4), Index: d.below(6), Text: d.text(d.below(6)), Sum: d.below(3) - 1}
	if d.below(4) == 0 {
		u.Group += 99996
	}
	switch d.below(25) {
	case 0:
		u.Group = []int{0, -1, 100001, math.MaxInt, math.MinInt}[d.below(5)]
	case 1:
		u.Index = []int{-1, 6, 7, math.MaxInt, math.MinInt}[d.below(5)]
	case 2:
		u.Text = d.text(200 + d.below(2))
	}
	return u
}

func TestDrawnLivesOfHosts(t *testing.T) {
	d := draw(146)
	done := map[string]int{}
	for range 150 {
		h := hostOf(1 + d.below(7))
		own := cloneHost(h)
		for range 120 {
			u, at := d.unit(), d.below(12)-1
			wantAsPlainHost(t, "a drawn life", h, u, at)
			var ok, want bool
			what := []string{"put", "put", "put", "drop", "spoil", "up"}[d.below(6)]
			switch what {
			case "put":
				h, ok = impl.PutUnit(h, u)
				own, want = plainPut(own, u)
			case "drop":
				h, ok = impl.DropUnit(h, u.Group, u.Index)
				own, want = plainDrop(own, u.Group, u.Index)
			case "spoil":
				h, ok = impl.Spoil(h, u.Group, u.Index, at)
				own, want = plainSpoil(own, u.Group, u.Index, at)
			case "up":
				h.Up = d.below(3) > 0
				own.Up = h.Up
			}
			wantHost(t, "a drawn life, "+what, h, ok, own, want)
			wantHostOk(t, "a drawn life, "+what, h, true)
			if ok {
				done[what]++
			}
		}
	}
	if done["put"] < 3000 || done["drop"] < 800 || done["spoil"] < 500 {
		t.Errorf("too little was done: %v", done)
	}
}

// A unit that is put is got until it is spoilt or gone: the test keeps the texts alone.
func TestUnitsThatArePutAreGot(t *testing.T) {
	d := draw(147)
	for range 60 {
		h := hostOf(1 + d.below(7))
		texts := map[[2]int]string{}
		for range 100 {
			u := impl.Unit{Group: 1 + d.below(5), Index: d.below(6), Text: d.text(d.below(8)), Sum: d.below(9)}
			key := [2]int{u.Group, u.Index}
			var ok bool
			switch d.below(4) {
			case 0, 1:
				h, _ = impl.PutUnit(h, u)
				texts[key] = u.Text
			case 2:
				h, _ = impl.DropUnit(h, u.Group, u.Index)
				delete(texts, key)
			case 3:
				if h, ok = impl.Spoil(h, u.Group, u.Index, d.below(9)); ok {
					delete(texts, key)
				}
			}
			for at := range 36 {
				group, index := at/6, at%6
				if text, there := texts[[2]int{group, index}]; there {
					wantGot(t, "a life", h, group, index, text)
				} else {
					wantNotGot(t, "a life", h, group, index)
				}
			}
		}
	}
}

func TestHostsThatAreDrawnWrong(t *testing.T) {
	d := draw(148)
	right := 0
	for range 20000 {
		h := impl.Host{Id: d.below(9), Up: d.below(4) > 0}
		for range d.below(4) {
			u := d.unit()
			if d.below(3) > 0 {
				u.Sum = plainSum(u.Text)
			}
			h.Units = append(h.Units, u)
		}
		if d.below(2) == 0 {
			slices.SortFunc(h.Units, func(a, b impl.Unit) int {
				return cmp.Or(cmp.Compare(a.Group, b.Group), cmp.Compare(a.Index, b.Index))
			})
		}
		u := d.unit()
		if len(h.Units) > 0 && d.below(2) == 0 {
			one := h.Units[d.below(len(h.Units))]
			u.Group, u.Index = one.Group, one.Index
		}
		wantAsPlainHost(t, "a drawn host", h, u, d.below(9)-1)
		if plainHostOk(h) {
			right++
		}
	}
	if right < 4000 || right > 16000 {
		t.Errorf("%d of 20000 hosts are right", right)
	}
}

func TestAHostWithManyUnits(t *testing.T) {
	h := hostOf(6)
	for at := range 3000 {
		h.Units = append(h.Units, unitOf(1+at/6*7, at%6, fmt.Sprint(at)))
	}
	for _, at := range []int{0, 1, 5, 6, 1500, 2994, 2999} {
		u := h.Units[at]
		for _, other := range []impl.Unit{unitOf(u.Group, u.Index, "new"), unitOf(u.Group+1, u.Index, "new"), unitOf(100000, u.Index, "new")} {
			wantAsPlainHost(t, "many units", h, other, 3)
		}
		wantGot(t, "many units", h, u.Group, u.Index, u.Text)
	}
}

// answers are all hosts that the chapter's functions answer for a host and a unit.
func answers(h impl.Host, u impl.Unit, at int) map[string]impl.Host {
	put, _ := impl.PutUnit(h, u)
	dropped, _ := impl.DropUnit(h, u.Group, u.Index)
	spoilt, _ := impl.Spoil(h, u.Group, u.Index, at)
	return map[string]impl.Host{"PutUnit": put, "DropUnit": dropped, "Spoil": spoilt}
}

// hostsForMemory are hosts whose units are put, dropped, spoilt, or refused.
func hostsForMemory() map[string]impl.Host {
	room := storeroom()
	wrong := storeroom()
	wrong.Id = 0
	return map[string]impl.Host{"right": room, "not Up": downHost(room), "not right": wrong}
}

func unitsForMemory() []impl.Unit {
	return []impl.Unit{
		unitOf(2, 1, "in a place"), unitOf(1, 0, "ahead"), unitOf(100000, 5, "behind"), unitOf(5, 3, "between"), unitOf(1, 1, "near"),
		unitOf(2, 2, "empty"), unitOf(2, 4, "spoilt"), unitOf(0, 2, "none"), unitOf(2, 6, "none"), unitOf(2, 1, strings.Repeat("long", 51)),
	}
}

func TestHostsAreNewMemory(t *testing.T) {
	for what, h := range hostsForMemory() {
		for _, u := range unitsForMemory() {
			for _, at := range []int{3, -1} {
				h, u := cloneHost(h), u
				u.Text = ownText(u.Text)
				texts := []string{u.Text}
				for i := range h.Units {
					h.Units[i].Text = ownText(h.Units[i].Text)
					texts = append(texts, h.Units[i].Text)
				}
				for name, got := range answers(h, u, at) {
					var own []string
					for _, one := range got.Units {
						if one.Text != "" {
							own = append(own, one.Text)
						}
					}
					wantNewTexts(t, what+", "+name, own, texts)
				}
				if text, _ := impl.GetUnit(h, u.Group, u.Index); text != "" {
					wantNewTexts(t, what+", GetUnit", []string{text}, texts)
				}
			}
		}
	}
}

// scribbleUnits writes over all the memory that a host has, also that behind its list.
func scribbleUnits(h impl.Host) {
	units := h.Units[:cap(h.Units)]
	for i := range units {
		units[i] = impl.Unit{Group: -1, Index: -1, Text: "scribble", Sum: -1}
	}
}

func TestHostsAreNotWrittenInto(t *testing.T) {
	mark := unitOf(77, 7, "mark")
	for what, h := range hostsForMemory() {
		for _, u := range unitsForMemory() {
			for _, at := range []int{0, 3, -1} {
				h := h
				h.Units = spare(h.Units, mark)
				room := h.Units[:len(h.Units)+3]
				before, handed := slices.Clone(room), u
				for name, got := range answers(h, u, at) {
					scribbleUnits(got)
					if !slices.Equal(room, before) {
						t.Fatalf("%s: %s of %d, %d writes into a host, or shares memory with it", what, name, u.Group, u.Index)
					}
				}
				impl.HostOk(h)
				impl.GetUnit(h, u.Group, u.Index)
				if !slices.Equal(room, before) || u != handed {
					t.Errorf("%s: of %d, %d a host is written into", what, u.Group, u.Index)
				}
			}
		}
	}
}

func TestTextsOnHostsAreNotWrittenInto(t *testing.T) {
	for _, u := range unitsForMemory() {
		for _, at := range []int{0, 4, 1000, -1} {
			text, handed := []byte("on a hostbehind"), []byte(u.Text+"behind")
			seen := u
			seen.Text = unsafe.String(&handed[0], len(u.Text))
			h := hostOf(1, unitOf(u.Group, u.Index, unsafe.String(&text[0], len("on a host"))))
			answers(h, seen, at)
			impl.GetUnit(h, u.Group, u.Index)
			impl.SumText(seen.Text)
			impl.HostOk(h)
			if string(text) != "on a hostbehind" || string(handed) != u.Text+"behind" {
				t.Errorf("a Text, or what is behind it, is written into: %q, %q", text, handed)
			}
		}
	}
}

// Nothing is kept from call to call: an answer that is written over is told anew.
func TestHostsAreToldAlikeEachTime(t *testing.T) {
	for _, h := range hostsForMemory() {
		for range 10 {
			for _, u := range unitsForMemory() {
				wantAsPlainHost(t, "each time", h, u, 3)
				for _, got := range answers(h, u, 3) {
					scribbleUnits(got)
				}
			}
		}
	}
}

func TestNoCallOnHostsPanics(t *testing.T) {
	far := []int{math.MinInt, math.MinInt + 1, math.MinInt32, -1, 0, 1, 5, 6, 100000, 100001, 1 << 32, math.MaxInt - 1, math.MaxInt}
	for _, group := range far {
		for _, index := range far {
			for _, n := range far {
				u := impl.Unit{Group: group, Index: index, Text: "far", Sum: n}
				h := hostOf(n, u, unitOf(group, index, "far"), impl.Unit{})
				wantAsPlainHost(t, "far numbers", h, u, n)
				wantAsPlainHost(t, "far numbers", hostOf(1, unitOf(1, 0, "a")), u, n)
				wantAsPlainHost(t, "far numbers", hostOf(1, unitOf(group, index, "far")), u, n)
			}
		}
	}
}
