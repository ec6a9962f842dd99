package tests

import (
	"fmt"
	"math"
	"slices"
	"strings"
	"testing"
	"unsafe"

	"loop.example/g00197/impl"
)

// upHosts are so many hosts that are Up, with the Ids from 1 on, and without units.
func upHosts(count int) []impl.Host {
	var hosts []impl.Host
	for id := 1; id <= count; id++ {
		hosts = append(hosts, hostOf(id))
	}
	return hosts
}

// loadedHost is a host with so many units of groups that no test writes.
func loadedHost(id, load int) impl.Host {
	h := hostOf(id)
	for n := range load {
		h.Units = append(h.Units, unitOf(50000+n/6, n%6, fmt.Sprintf("of %d", id)))
	}
	return h
}

// loadedHosts have these loads, in order, and the Ids from 1 on.
func loadedHosts(loads ...int) []impl.Host {
	var hosts []impl.Host
	for i, load := range loads {
		hosts = append(hosts, loadedHost(i+1, load))
	}
	return hosts
}

func cloneHosts(hosts []impl.Host) []impl.Host {
	var out []impl.Host
	for _, h := range hosts {
		out = append(out, cloneHost(h))
	}
	return out
}

func sameHosts(a, b []impl.Host) bool {
	return slices.EqualFunc(a, b, sameHost)
}

func tellHosts(hosts []impl.Host) string {
	var out []string
	for _, h := range hosts {
		out = append(out, fmt.Sprintf("%.300s", tellHost(h)))
	}
	return "[" + strings.Join(out, "; ") + "]"
}

func schemaFor(s int) (schema, bool) {
	at := slices.IndexFunc(schemas(), func(c schema) bool { return c.s == s })
	if at < 0 {
		return schema{}, false
	}
	return schemas()[at], true
}

// plainBest is the place of the host with the least load, then Id, of those that are wanted; -1 without one.
func plainBest(hosts []impl.Host, wanted func(at int) bool) int {
	best := -1
	for at, h := range hosts {
		if !wanted(at) {
			continue
		}
		if best < 0 || len(h.Units) < len(hosts[best].Units) || len(h.Units) == len(hosts[best].Units) && h.Id < hosts[best].Id {
			best = at
		}
	}
	return best
}

func plainPlaces(hosts []impl.Host, n int) ([]int, bool) {
	taken := map[int]bool{}
	var ids []int
	for len(ids) < len(hosts) {
		at := plainBest(hosts, func(at int) bool { return hosts[at].Up && !taken[at] })
		if at < 0 {
			break
		}
		taken[at] = true
		ids = append(ids, hosts[at].Id)
	}
	if n < 0 || n > len(ids) {
		return nil, false
	}
	return ids[:n], true
}

func plainWrite(hosts []impl.Host, s, group int, text string) ([]impl.Host, bool) {
	c, ok := schemaFor(s)
	if !ok || len(text) > c.size() {
		return hosts, false
	}
	ids, ok := plainPlaces(hosts, c.all())
	if !ok {
		return hosts, false
	}
	after := cloneHosts(hosts)
	for index, unit := range c.encoded(c.cut(text)) {
		for at := range after {
			if after[at].Id == ids[index] {
				after[at], ok = plainPut(after[at], impl.Unit{Group: group, Index: index, Text: unit})
				if !ok {
					return hosts, false
				}
				break
			}
		}
	}
	return after, true
}

func plainUnits(hosts []impl.Host, s, group int) ([]string, []bool) {
	c, _ := schemaFor(s)
	texts, have := make([]string, c.all()), make([]bool, c.all())
	for index := range c.all() {
		for _, h := range hosts {
			if text, ok := plainGet(h, group, index); ok && !have[index] {
				texts[index], have[index] = text, true
			}
		}
	}
	return texts, have
}

func plainLeft(hosts []impl.Host, s, group int) int {
	_, have := plainUnits(hosts, s, group)
	return len(slices.DeleteFunc(have, func(there bool) bool { return !there }))
}

func plainReadGroup(hosts []impl.Host, s, group, n int) (string, bool) {
	texts, have := plainUnits(hosts, s, group)
	units, ok := impl.Decode(s, texts, have)
	c, _ := schemaFor(s)
	if !ok || n < 0 || n > c.size() {
		return "", false
	}
	return c.joined(units, n), true
}

// plainMend looks for a host anew for each unit that is lost.
func plainMend(hosts []impl.Host, s, group int) ([]impl.Host, int) {
	texts, have := plainUnits(hosts, s, group)
	all, ok := impl.Rebuild(s, texts, have)
	if !ok || group < 1 || group > 100000 {
		return hosts, 0
	}
	after, mended := cloneHosts(hosts), 0
	for index, text := range all {
		at := plainBest(after, func(at int) bool {
			return after[at].Up && plainHostOk(after[at]) && plainLeft(after[at:at+1], s, group) == 0
		})
		if have[index] || at < 0 {
			continue
		}
		after[at], _ = plainPut(after[at], impl.Unit{Group: group, Index: index, Text: text})
		mended++
	}
	return after, mended
}

func wantPlaces(t *testing.T, what string, hosts []impl.Host, n int, want ...int) {
	t.Helper()
	if ids, ok := impl.PlaceGroup(hosts, n); !ok || !slices.Equal(ids, want) {
		t.Errorf("%s: PlaceGroup of %d = %v, %v, want %v", what, n, ids, ok, want)
	}
}

func wantNoPlaces(t *testing.T, what string, hosts []impl.Host, n int) {
	t.Helper()
	if ids, ok := impl.PlaceGroup(hosts, n); ok || len(ids) != 0 {
		t.Errorf("%s: PlaceGroup of %d = %v, %v", what, n, ids, ok)
	}
}

func wantHosts(t *testing.T, what string, got, want []impl.Host) {
	t.Helper()
	if !sameHosts(got, want) {
		t.Fatalf("%s: %s, want %s", what, tellHosts(got), tellHosts(want))
	}
}

// mustWrite writes a group and asks for what the document tells of it.
func mustWrite(t *testing.T, what string, hosts []impl.Host, s, group int, text string) []impl.Host {
	t.Helper()
	want, ok := plainWrite(hosts, s, group, text)
	if !ok {
		t.Fatalf("%s: the test has no hosts for it", what)
	}
	got, ok := impl.WriteGroup(hosts, s, group, text)
	if !ok {
		t.Fatalf("%s: WriteGroup of schema %d, group %d and %d bytes is false of %s", what, s, group, len(text), tellHosts(hosts))
	}
	wantHosts(t, what+", WriteGroup", got, want)
	return got
}

func wantNotWritten(t *testing.T, what string, hosts []impl.Host, s, group int, text string) {
	t.Helper()
	before := cloneHosts(hosts)
	got, ok := impl.WriteGroup(hosts, s, group, text)
	if ok {
		t.Errorf("%s: WriteGroup of schema %d, group %d and %d bytes is true", what, s, group, len(text))
	}
	wantHosts(t, what+", WriteGroup", got, before)
}

// wantGroup asks for a group of which some are there, those of have.
func wantGroup(t *testing.T, what string, hosts []impl.Host, c schema, group int, text string, have []bool) {
	t.Helper()
	left := 0
	want := c.encoded(c.cut(text))
	for i, there := range have {
		if there {
			left++
		} else {
			want[i] = ""
		}
	}
	if units, had := impl.UnitsOf(hosts, c.s, group); !slices.Equal(units, want) || !slices.Equal(had, have) {
		t.Errorf("%s: UnitsOf of schema %d = %q, %v, want %q, %v", what, c.s, units, had, want, have)
	}
	if got := impl.LeftOf(hosts, c.s, group); got != left {
		t.Errorf("%s: LeftOf of schema %d = %d, want %d", what, c.s, got, left)
	}
	if left >= c.units {
		wantReadAs(t, what, hosts, c.s, group, text)
	} else {
		wantUnread(t, what, hosts, c.s, group, len(text))
	}
}

func wantReadAs(t *testing.T, what string, hosts []impl.Host, s, group int, want string) {
	t.Helper()
	if text, ok := impl.ReadGroup(hosts, s, group, len(want)); text != want || !ok {
		t.Errorf("%s: ReadGroup of schema %d, group %d = %q, %v, want %q", what, s, group, text, ok, want)
	}
}

func wantUnread(t *testing.T, what string, hosts []impl.Host, s, group, n int) {
	t.Helper()
	if text, ok := impl.ReadGroup(hosts, s, group, n); text != "" || ok {
		t.Errorf("%s: ReadGroup of schema %d, group %d, %d bytes = %q, %v", what, s, group, n, text, ok)
	}
}

func mustMend(t *testing.T, what string, hosts []impl.Host, s, group, count int) []impl.Host {
	t.Helper()
	want, plain := plainMend(hosts, s, group)
	got, mended := impl.Mend(hosts, s, group)
	if mended != count || plain != count {
		t.Fatalf("%s: Mend of schema %d, group %d puts %d, want %d (%d in the test's own way) of %s", what, s, group, mended, count, plain, tellHosts(hosts))
	}
	wantHosts(t, what+", Mend", got, want)
	return got
}

func wantNotMended(t *testing.T, what string, hosts []impl.Host, s, group int) {
	t.Helper()
	before := cloneHosts(hosts)
	wantHosts(t, what, mustMend(t, what, hosts, s, group, 0), before)
}

func mustSpoil(t *testing.T, h impl.Host, group, index, at int) impl.Host {
	t.Helper()
	spoilt, ok := plainSpoil(h, group, index, at)
	if !ok {
		t.Fatalf("%d, %d is not spoilt on %s", group, index, tellHost(h))
	}
	return spoilt
}

// holders has for each unit of a group the place of the host on which it lies.
func holders(t *testing.T, hosts []impl.Host, c schema, group int) []int {
	t.Helper()
	places := make([]int, c.all())
	for index := range places {
		places[index] = -1
		for at, h := range hosts {
			if _, ok := plainFirst(h, group, index); ok && places[index] < 0 {
				places[index] = at
			} else if ok {
				t.Errorf("%d, %d lies on hosts %d and %d", group, index, hosts[places[index]].Id, h.Id)
			}
		}
	}
	return places
}

// wantApart asks whether all units of a group are got, no two of one host.
func wantApart(t *testing.T, what string, hosts []impl.Host, c schema, group int) {
	t.Helper()
	for _, h := range hosts {
		if n := plainLeft([]impl.Host{h}, c.s, group); n > 1 {
			t.Errorf("%s: host %d has %d units of the group", what, h.Id, n)
		}
	}
	if n := plainLeft(hosts, c.s, group); n != c.all() {
		t.Errorf("%s: %d units are there, not %d", what, n, c.all())
	}
}

// losses are the ways in which a host loses a unit.
func losses(t *testing.T, group int) map[string]func(h impl.Host, index int) impl.Host {
	return map[string]func(h impl.Host, index int) impl.Host{
		"down":    func(h impl.Host, index int) impl.Host { return downHost(h) },
		"emptied": func(h impl.Host, index int) impl.Host { h.Units = nil; return h },
		"dropped": func(h impl.Host, index int) impl.Host { h, _ = plainDrop(h, group, index); return h },
		"spoilt":  func(h impl.Host, index int) impl.Host { return mustSpoil(t, h, group, index, index+3) },
	}
}

// wantAsPlainPlaces asks all functions of the chapter, each against the test's own.
func wantAsPlainPlaces(t *testing.T, what string, hosts []impl.Host, s, group, n int, text string) {
	t.Helper()
	before := cloneHosts(hosts)
	for _, h := range hosts {
		if load := impl.LoadOf(h); load != len(h.Units) {
			t.Errorf("%s: LoadOf = %d, want %d", what, load, len(h.Units))
		}
	}
	ids, ok := impl.PlaceGroup(hosts, n)
	if plain, wantOk := plainPlaces(hosts, n); ok != wantOk || !slices.Equal(ids, plain) {
		t.Errorf("%s: PlaceGroup of %d = %v, %v, want %v, %v", what, n, ids, ok, plain, wantOk)
	}
	after, ok := impl.WriteGroup(hosts, s, group, text)
	want, wantOk := plainWrite(hosts, s, group, text)
	if ok != wantOk {
		t.Errorf("%s: WriteGroup of %d, %d is %v of %s", what, s, group, ok, tellHosts(hosts))
	}
	wantHosts(t, what+", WriteGroup", after, want)
	units, have := impl.UnitsOf(hosts, s, group)
	if plain, had := plainUnits(hosts, s, group); !slices.Equal(units, plain) || !slices.Equal(have, had) {
		t.Errorf("%s: UnitsOf of %d, %d = %q, %v, want %q, %v", what, s, group, units, have, plain, had)
	}
	read, ok := impl.ReadGroup(hosts, s, group, n)
	if plain, wantOk := plainReadGroup(hosts, s, group, n); read != plain || ok != wantOk {
		t.Errorf("%s: ReadGroup of %d, %d, %d = %q, %v, want %q, %v", what, s, group, n, read, ok, plain, wantOk)
	}
	if left := impl.LeftOf(hosts, s, group); left != plainLeft(hosts, s, group) {
		t.Errorf("%s: LeftOf of %d, %d = %d", what, s, group, left)
	}
	after, mended := impl.Mend(hosts, s, group)
	want, count := plainMend(hosts, s, group)
	if mended != count {
		t.Errorf("%s: Mend of %d, %d puts %d, want %d", what, s, group, mended, count)
	}
	wantHosts(t, what+", Mend", after, want)
	wantHosts(t, what+", the hosts themselves", hosts, before)
}

func TestLoads(t *testing.T) {
	for load := range 20 {
		h := loadedHost(3, load)
		for what, h := range map[string]impl.Host{"Up": h, "not Up": downHost(h), "not right": {Id: 99, Units: h.Units}} {
			if got := impl.LoadOf(h); got != load {
				t.Errorf("%s: LoadOf %d units is %d", what, load, got)
			}
		}
	}
	if got := impl.LoadOf(storeroom()); got != 10 {
		t.Errorf("LoadOf with one that is spoilt and one without a Text is %d", got)
	}
	for what, h := range wrongHosts() {
		if got := impl.LoadOf(h); got != len(h.Units) {
			t.Errorf("%s: LoadOf is %d", what, got)
		}
	}
	if impl.LoadOf(impl.Host{}) != 0 || impl.LoadOf(impl.Host{Units: []impl.Unit{}}) != 0 {
		t.Error("a host without units has a load")
	}
	if impl.LoadOf(hostOf(1, spare([]impl.Unit{unitOf(1, 1, "a")}, unitOf(9, 9, "mark"))...)) != 1 {
		t.Error("what is behind the list is counted")
	}
}

// Of several hosts of one load the least Id comes first, whatever place they stand at.
func TestPlacesOfOneLoad(t *testing.T) {
	for _, load := range []int{0, 1, 6} {
		for order, places := range inEachOrder(7) {
			var hosts []impl.Host
			for _, at := range places {
				hosts = append(hosts, loadedHost(at+1, load))
			}
			for n := range 8 {
				wantPlaces(t, order, hosts, n, []int{1, 2, 3, 4, 5, 6, 7}[:n]...)
			}
			wantNoPlaces(t, order, hosts, 8)
			wantNoPlaces(t, order, hosts, -1)
		}
	}
}

func TestPlacesByLoad(t *testing.T) {
	wantPlaces(t, "descending", loadedHosts(6, 5, 4, 3, 2, 1, 0), 7, 7, 6, 5, 4, 3, 2, 1)
	wantPlaces(t, "ascending", loadedHosts(0, 1, 2, 3, 4, 5, 6), 7, 1, 2, 3, 4, 5, 6, 7)
	wantPlaces(t, "some alike", loadedHosts(2, 0, 2, 0, 1, 1, 9), 7, 2, 4, 5, 6, 1, 3, 7)
	wantPlaces(t, "some alike", loadedHosts(2, 0, 2, 0, 1, 1, 9), 3, 2, 4, 5)
	wantPlaces(t, "one with many", loadedHosts(100, 0, 10), 3, 2, 3, 1)
	wantPlaces(t, "one with many", loadedHosts(100, 0, 10), 2, 2, 3)
	for order, places := range inEachOrder(7) {
		hosts, want := make([]impl.Host, 7), make([]int, 7)
		for at, load := range places {
			hosts[at] = loadedHost(at+1, load)
			want[load] = at + 1
		}
		for n := range 8 {
			wantPlaces(t, order, hosts, n, want[:n]...)
		}
	}
	spoilt := []impl.Host{hostOf(1, withSum(unitOf(1, 1, "a"), 0)), hostOf(2)}
	wantPlaces(t, "a spoilt unit counts", spoilt, 2, 2, 1)
}

func TestPlacesOfHostsThatAreUp(t *testing.T) {
	for up := range 1 << 7 {
		hosts := loadedHosts(1, 3, 0, 3, 1, 0, 2)
		var want []int
		for at := range hosts {
			hosts[at].Up = up>>at&1 == 1
		}
		for _, id := range []int{3, 6, 1, 5, 7, 2, 4} {
			if hosts[id-1].Up {
				want = append(want, id)
			}
		}
		for n := range 10 {
			if n <= len(want) {
				wantPlaces(t, "some are Up", hosts, n, want[:n]...)
			} else {
				wantNoPlaces(t, "some are Up", hosts, n)
			}
		}
		for _, far := range outOfRange(8) {
			wantNoPlaces(t, "some are Up", hosts, far)
		}
	}
}

func TestPlacesWithoutHosts(t *testing.T) {
	for what, hosts := range map[string][]impl.Host{
		"none":       nil,
		"empty":      {},
		"none is Up": {downHost(hostOf(1)), downHost(hostOf(2)), {}},
		"behind it":  spare([]impl.Host{}, hostOf(1)),
	} {
		wantPlaces(t, what, hosts, 0)
		for _, n := range append(outOfRange(1), 2, 3) {
			wantNoPlaces(t, what, hosts, n)
		}
	}
}

// The document wants of hosts that are placed no more than that they are Up.
func TestPlacesOfHostsThatAreNotRight(t *testing.T) {
	hosts := []impl.Host{hostOf(8), hostOf(0), hostOf(math.MinInt), hostOf(math.MaxInt), hostOf(-1), downHost(hostOf(-5)), hostOf(3)}
	wantPlaces(t, "Ids that are none", hosts, 6, math.MinInt, -1, 0, 3, 8, math.MaxInt)
	wantNoPlaces(t, "Ids that are none", hosts, 7)
	twins := []impl.Host{loadedHost(2, 1), hostOf(3), hostOf(2), loadedHost(1, 1), hostOf(2)}
	wantPlaces(t, "one Id", twins, 5, 2, 2, 3, 1, 2)
	wantPlaces(t, "one Id", twins, 2, 2, 2)
	wrong := []impl.Host{hostOf(1, unitOf(9, 1, "b"), unitOf(9, 0, "a")), hostOf(2, unitOf(9, 1, "b"))}
	wantPlaces(t, "units in the wrong order", wrong, 2, 2, 1)
	for what, h := range wrongHosts() {
		ids, ok := impl.PlaceGroup([]impl.Host{h}, 1)
		if !ok || !slices.Equal(ids, []int{h.Id}) {
			t.Errorf("%s: PlaceGroup = %v, %v", what, ids, ok)
		}
	}
}

func TestGroupsOfEachLengthAreWritten(t *testing.T) {
	d := draw(150)
	for _, c := range schemas() {
		for count := c.all(); count <= 7; count++ {
			for length := range c.size() + 1 {
				text := d.text(length)
				what := fmt.Sprintf("%d bytes to %d hosts", length, count)
				hosts := mustWrite(t, what, upHosts(count), c.s, 7, text)
				units := c.encoded(c.cut(text))
				for at, h := range hosts {
					want := hostOf(at + 1)
					if at < c.all() {
						want = hostOf(at+1, unitOf(7, at, units[at]))
					}
					if !sameHost(h, want) || !impl.HostOk(h) {
						t.Errorf("%s: %s, want %s", what, tellHost(h), tellHost(want))
					}
				}
				wantGroup(t, what, hosts, c, 7, text, slices.Repeat([]bool{true}, c.all()))
			}
		}
	}
}

func TestGroupsGoToThoseWithTheLeastLoad(t *testing.T) {
	d := draw(151)
	for _, c := range schemas() {
		for order, places := range inEachOrder(7) {
			hosts := make([]impl.Host, 7)
			for at, load := range places {
				hosts[at] = loadedHost(at+1, load/2)
			}
			text := d.text(1 + d.below(c.size()))
			ids, _ := impl.PlaceGroup(hosts, c.all())
			after := mustWrite(t, order, hosts, c.s, 12, text)
			for index, at := range holders(t, after, c, 12) {
				if after[at].Id != ids[index] {
					t.Errorf("%s: unit %d is on host %d, want %d", order, index, after[at].Id, ids[index])
				}
				wantOthers(t, order, hosts[at], after[at], 12, index)
			}
			wantApart(t, order, after, c, 12)
			wantReadAs(t, order, after, c.s, 12, text)
		}
	}
}

func TestHostsThatAreNotUpAreWrittenNothing(t *testing.T) {
	for _, c := range schemas() {
		for up := range 1 << 7 {
			hosts := upHosts(7)
			var ids []int
			for at := range hosts {
				hosts[at].Up = up>>at&1 == 1
				if hosts[at].Up {
					ids = append(ids, at+1)
				}
			}
			if len(ids) < c.all() {
				wantNotWritten(t, "too few are Up", hosts, c.s, 7, "hall")
				continue
			}
			after := mustWrite(t, "some are Up", hosts, c.s, 7, "hall")
			for index, at := range holders(t, after, c, 7) {
				if after[at].Id != ids[index] {
					t.Errorf("unit %d is on host %d, want %d", index, after[at].Id, ids[index])
				}
			}
			wantReadAs(t, "some are Up", after, c.s, 7, "hall")
		}
	}
}

// As many may be lost as there are sums, and not one more.
func TestGroupsAreReadWithLostUnits(t *testing.T) {
	d := draw(152)
	for _, c := range schemas() {
		for _, length := range []int{1, 2, 3, 4, 5, 8, c.size() - 1, c.size()} {
			text := d.text(length)
			written := mustWrite(t, "whole", loadedHosts(1, 0, 2, 0, 1, 2, 0), c.s, 31, text)
			places := holders(t, written, c, 31)
			for there := range c.all() + 1 {
				for _, have := range haves(c.all(), there) {
					for loss, lose := range losses(t, 31) {
						hosts := cloneHosts(written)
						for index, at := range places {
							if !have[index] {
								hosts[at] = lose(hosts[at], index)
							}
						}
						wantGroup(t, fmt.Sprintf("%d bytes, %s", length, loss), hosts, c, 31, text, have)
					}
				}
			}
		}
	}
}

// Each unit is lost in a way of its own.
func TestGroupsAreReadWithUnitsLostInSeveralWays(t *testing.T) {
	d := draw(153)
	ways := []string{"down", "emptied", "dropped", "spoilt"}
	for _, c := range schemas() {
		for range 300 {
			text := d.text(1 + d.below(c.size()))
			hosts := mustWrite(t, "whole", loadedHosts(d.below(3), d.below(3), d.below(3), d.below(3), d.below(3), d.below(3), d.below(3)), c.s, 31, text)
			have := make([]bool, c.all())
			for index, at := range holders(t, hosts, c, 31) {
				have[index] = d.below(3) > 0
				if !have[index] {
					hosts[at] = losses(t, 31)[ways[d.below(4)]](hosts[at], index)
				}
			}
			wantGroup(t, "lost in several ways", hosts, c, 31, text, have)
		}
	}
}

// Of a group of n bytes fewer may be read; more are bytes 0, up to the size of a group.
func TestAnyLengthOfAGroupIsRead(t *testing.T) {
	d := draw(154)
	for _, c := range schemas() {
		for _, length := range []int{0, 1, 5, c.size() - 1, c.size()} {
			text := d.text(length)
			hosts := mustWrite(t, "whole", upHosts(7), c.s, 2, text)
			lost := cloneHosts(hosts)
			for at := range c.sums {
				lost[at].Up = false
			}
			long := text + strings.Repeat("\x00", c.size()-length)
			for n := range c.size() + 1 {
				wantReadAs(t, "whole", hosts, c.s, 2, long[:n])
				wantReadAs(t, "some are lost", lost, c.s, 2, long[:n])
			}
			for _, far := range outOfRange(c.size() + 1) {
				wantUnread(t, "a far length", hosts, c.s, 2, far)
			}
		}
	}
}

func TestGroupsWithoutBytes(t *testing.T) {
	for _, c := range schemas() {
		hosts := mustWrite(t, "no bytes", upHosts(7), c.s, 2, "")
		for at := range c.all() {
			if !sameHost(hosts[at], hostOf(at+1, unitOf(2, at, ""))) {
				t.Errorf("no bytes: %s", tellHost(hosts[at]))
			}
		}
		wantGroup(t, "no bytes", hosts, c, 2, "", slices.Repeat([]bool{true}, c.all()))
		for at := range c.sums {
			hosts[at].Units = nil
		}
		wantReadAs(t, "no bytes, some are lost", hosts, c.s, 2, "")
		mended := mustMend(t, "no bytes", hosts, c.s, 2, c.sums)
		wantApart(t, "no bytes", mended, c, 2)
		hosts[c.sums].Units = nil
		wantUnread(t, "no bytes, too many are lost", hosts, c.s, 2, 0)
		wantNotMended(t, "no bytes, too many are lost", hosts, c.s, 2)
	}
}

func TestGroupsAtTheEdges(t *testing.T) {
	for _, c := range schemas() {
		for _, group := range []int{1, 2, 99999, 100000} {
			hosts := mustWrite(t, "an edge", upHosts(c.all()), c.s, group, "edge")
			wantReadAs(t, "an edge", hosts, c.s, group, "edge")
			hosts[0].Units = nil
			wantReadAs(t, "an edge", mustMend(t, "an edge", hosts, c.s, group, 1), c.s, group, "edge")
		}
		for _, group := range append(outOfRange(100001), 0) {
			for _, hosts := range [][]impl.Host{upHosts(7), loadedHosts(3, 2, 1, 0, 1, 2, 3)} {
				wantNotWritten(t, "no group", hosts, c.s, group, "edge")
				wantUnread(t, "no group", hosts, c.s, group, 4)
				wantGroup(t, "no group", hosts, c, group, "", make([]bool, c.all()))
				wantNotMended(t, "no group", hosts, c.s, group)
			}
		}
		for length := range 3 {
			text := drawn(155, c.size()+length)
			if length == 0 {
				mustWrite(t, "just the size of a group", upHosts(7), c.s, 2, text)
			} else {
				wantNotWritten(t, "longer than a group", upHosts(7), c.s, 2, text)
			}
		}
		wantNotWritten(t, "much longer than a group", upHosts(7), c.s, 2, strings.Repeat("long", 10000))
		wantNotWritten(t, "one host too few", upHosts(c.all()-1), c.s, 2, "edge")
		wantNotWritten(t, "no hosts", nil, c.s, 2, "edge")
	}
}

func TestGroupsOfSchemasThatAreNone(t *testing.T) {
	hosts := upHosts(7)
	for _, c := range schemas() {
		hosts = mustWrite(t, "each schema", hosts, c.s, c.s, "hall")
	}
	for _, s := range wrongSchemas() {
		for group := range 5 {
			for _, text := range []string{"", "hall"} {
				wantNotWritten(t, "no schema", hosts, s, group, text)
				wantNotWritten(t, "no schema and no hosts", nil, s, group, text)
			}
			if units, have := impl.UnitsOf(hosts, s, group); len(units) != 0 || len(have) != 0 {
				t.Errorf("UnitsOf of schema %d = %q, %v", s, units, have)
			}
			if left := impl.LeftOf(hosts, s, group); left != 0 {
				t.Errorf("LeftOf of schema %d = %d", s, left)
			}
			wantUnread(t, "no schema", hosts, s, group, 0)
			wantUnread(t, "no schema", hosts, s, group, 4)
			wantNotMended(t, "no schema", hosts, s, group)
		}
	}
}

func TestGroupsBesideOthers(t *testing.T) {
	d := draw(156)
	for range 20 {
		hosts := loadedHosts(d.below(4), d.below(4), d.below(4), d.below(4), d.below(4), d.below(4), d.below(4))
		texts, of := map[int]string{}, map[int]schema{}
		for group := 1; group <= 40; group++ {
			c := schemas()[d.below(3)]
			text := d.text(1 + d.below(c.size()))
			after := mustWrite(t, "beside others", hosts, c.s, group, text)
			for at := range hosts {
				_, index, _ := one(after[at], group)
				wantOthers(t, "beside others", hosts[at], after[at], group, index)
			}
			hosts, texts[group], of[group] = after, text, c
			for known, text := range texts {
				wantReadAs(t, "beside others", hosts, of[known].s, known, text)
			}
		}
		loads := []int{}
		for _, h := range hosts {
			loads = append(loads, impl.LoadOf(h))
		}
		if slices.Max(loads)-slices.Min(loads) > 1 {
			t.Errorf("behind many groups the loads are %v", loads)
		}
	}
}

// one is a unit of a group that lies on a host, with its index; -1 without one.
func one(h impl.Host, group int) (impl.Unit, int, bool) {
	at := slices.IndexFunc(h.Units, func(u impl.Unit) bool { return u.Group == group })
	if at < 0 {
		return impl.Unit{}, -1, false
	}
	return h.Units[at], h.Units[at].Index, true
}

// Units that a group had are not dropped: those that come stand in their place, or beside them.
func TestGroupsThatAreWrittenAgain(t *testing.T) {
	for _, c := range schemas() {
		hosts := upHosts(c.all())
		for _, text := range []string{"hall", "door", "a", "", drawn(157, c.size())} {
			hosts = mustWrite(t, "in their place", hosts, c.s, 3, text)
			wantGroup(t, "in their place", hosts, c, 3, text, slices.Repeat([]bool{true}, c.all()))
			for _, h := range hosts {
				if impl.LoadOf(h) != 1 {
					t.Errorf("written again: %s", tellHost(h))
				}
			}
		}
	}
	c := schemas()[0]
	hosts := mustWrite(t, "once", upHosts(4), c.s, 3, "hall")
	hosts = mustWrite(t, "again", hosts, c.s, 3, "door")
	sum := c.encoded(c.cut("hall"))[2]
	wantHosts(t, "again", hosts, []impl.Host{
		hostOf(1, unitOf(3, 0, "hall"), unitOf(3, 1, "\x00\x00\x00\x00")),
		hostOf(2, unitOf(3, 1, "\x00\x00\x00\x00"), unitOf(3, 2, c.encoded(c.cut("door"))[2])),
		hostOf(3, unitOf(3, 2, sum)),
		hostOf(4, unitOf(3, 0, "door")),
	})
	units, _ := impl.UnitsOf(hosts, c.s, 3)
	if units[0] != "hall" || units[2] == sum {
		t.Errorf("of several the first host's are not told: %q", units)
	}
}

// A unit that is spoilt is none: what is put with its group and index takes its place.
func TestUnitsInThePlaceOfSpoiltOnes(t *testing.T) {
	for _, c := range schemas() {
		hosts := mustWrite(t, "whole", upHosts(c.all()), c.s, 3, "hall")
		for at := range hosts {
			hosts[at] = mustSpoil(t, hosts[at], 3, at, 2)
		}
		wantGroup(t, "all are spoilt", hosts, c, 3, "hall", make([]bool, c.all()))
		wantNotMended(t, "all are spoilt", hosts, c.s, 3)
		again := mustWrite(t, "written again", hosts, c.s, 3, "door")
		wantGroup(t, "written again", again, c, 3, "door", slices.Repeat([]bool{true}, c.all()))
		for index := range c.all() {
			spoilt := mustWrite(t, "whole", upHosts(c.all()), c.s, 3, "hall")
			spoilt[index] = mustSpoil(t, spoilt[index], 3, index, 1)
			mended := mustMend(t, "one is spoilt", spoilt, c.s, 3, 1)
			wantHosts(t, "one is spoilt", mended, mustWrite(t, "whole", upHosts(c.all()), c.s, 3, "hall"))
		}
	}
}

func TestUnitsOfTheFirstHostThatHasThem(t *testing.T) {
	hosts := []impl.Host{
		hostOf(1, unitOf(4, 0, "a of 1"), unitOf(5, 1, "another group")),
		hostOf(2, unitOf(4, 0, "a of 2"), unitOf(4, 2, "c of 2")),
		downHost(hostOf(3, unitOf(4, 1, "b of 3"))),
		hostOf(4, withSum(unitOf(4, 1, "spoilt"), 5), unitOf(4, 2, "c of 4")),
		hostOf(5, unitOf(4, 1, "b of 5"), unitOf(4, 3, "beyond")),
	}
	told := func(what string, hosts []impl.Host, want []string, wantHave []bool) {
		t.Helper()
		units, have := impl.UnitsOf(hosts, impl.SchemaSmall, 4)
		if !slices.Equal(units, want) || !slices.Equal(have, wantHave) {
			t.Errorf("%s: UnitsOf = %q, %v, want %q, %v", what, units, have, want, wantHave)
		}
		if left := impl.LeftOf(hosts, impl.SchemaSmall, 4); left != plainLeft(hosts, impl.SchemaSmall, 4) {
			t.Errorf("%s: LeftOf = %d", what, left)
		}
	}
	told("in order", hosts, []string{"a of 1", "b of 5", "c of 2"}, []bool{true, true, true})
	turned := slices.Clone(hosts)
	slices.Reverse(turned)
	told("the other way round", turned, []string{"a of 2", "b of 5", "c of 4"}, []bool{true, true, true})
	hosts[0].Up, hosts[4].Up = false, false
	told("two down", hosts, []string{"a of 2", "", "c of 2"}, []bool{true, false, true})
	hosts[2].Up = true
	told("one up again", hosts, []string{"a of 2", "b of 3", "c of 2"}, []bool{true, true, true})
	told("one alone", hosts[3:4], []string{"", "", "c of 4"}, []bool{false, false, true})
	told("none", nil, []string{"", "", ""}, []bool{false, false, false})
	for _, c := range schemas() {
		if units, have := impl.UnitsOf(nil, c.s, 4); len(units) != c.all() || len(have) != c.all() || strings.Join(units, "") != "" || slices.Contains(have, true) {
			t.Errorf("without hosts: UnitsOf = %q, %v", units, have)
		}
	}
	wide, have := impl.UnitsOf(hosts, impl.SchemaWide, 4)
	if !slices.Equal(wide, []string{"a of 2", "b of 3", "c of 2", "", "", ""}) || !slices.Equal(have, []bool{true, true, true, false, false, false}) {
		t.Errorf("of a wider schema: %q, %v", wide, have)
	}
}

// Units that are there but not of one length are no group.
func TestUnitsOfSeveralLengths(t *testing.T) {
	for _, c := range schemas() {
		hosts := mustWrite(t, "whole", upHosts(7), c.s, 3, "hall")
		hosts[0] = hostOf(1, unitOf(3, 0, "longer"))
		hosts[1].Units = nil
		if left := impl.LeftOf(hosts, c.s, 3); left != c.all()-1 {
			t.Errorf("LeftOf = %d", left)
		}
		wantUnread(t, "a unit of another length", hosts, c.s, 3, 4)
		wantNotMended(t, "a unit of another length", hosts, c.s, 3)
	}
}

func TestLostUnitsAreMended(t *testing.T) {
	d := draw(158)
	for _, c := range schemas() {
		for _, length := range []int{1, 3, 4, 9, c.size()} {
			text := d.text(length)
			for _, have := range c.enough() {
				for loss, lose := range losses(t, 9) {
					hosts := mustWrite(t, "whole", loadedHosts(1, 0, 2, 0, 1, 2, 0), c.s, 9, text)
					count, free := 0, 7-c.all()
					for index, at := range holders(t, hosts, c, 9) {
						if !have[index] {
							hosts[at] = lose(hosts[at], index)
							count++
						}
						if !have[index] && loss != "down" {
							free++
						}
					}
					what := fmt.Sprintf("%d bytes, %s", length, loss)
					mended := mustMend(t, what, hosts, c.s, 9, min(count, free))
					if free >= count {
						wantApart(t, what, mended, c, 9)
						wantNotMended(t, what+", whole", mended, c.s, 9)
					}
					wantReadAs(t, what, mended, c.s, 9, text)
					if left := impl.LeftOf(mended, c.s, 9); left != c.all()-count+min(count, free) {
						t.Errorf("%s: behind Mend %d are left", what, left)
					}
				}
			}
		}
	}
}

// What is mended is a whole group: it may lose as many again.
func TestGroupsAreMendedAgainAndAgain(t *testing.T) {
	d := draw(159)
	for _, c := range schemas() {
		text := d.text(c.size() - 1)
		hosts := mustWrite(t, "whole", upHosts(7), c.s, 9, text)
		for range 200 {
			lost := 0
			for lost < c.sums {
				at := d.below(7)
				if plainLeft(hosts[at:at+1], c.s, 9) == 0 {
					continue
				}
				_, index, _ := one(hosts[at], 9)
				if d.below(2) == 0 {
					hosts[at].Units = nil
				} else if hosts[at].Units[0].Sum == plainSum(hosts[at].Units[0].Text) {
					hosts[at] = mustSpoil(t, hosts[at], 9, index, d.below(8))
				} else {
					continue
				}
				lost++
			}
			wantReadAs(t, "again and again", hosts, c.s, 9, text)
			before := plainLeft(hosts, c.s, 9)
			hosts = mustMend(t, "again and again", hosts, c.s, 9, c.all()-before)
			wantApart(t, "again and again", hosts, c, 9)
			wantReadAs(t, "again and again", hosts, c.s, 9, text)
		}
	}
}

func TestWhereMendedUnitsGo(t *testing.T) {
	c := schemas()[1]
	units := c.encoded(c.cut("twelve bytes"))
	there := func(id, index int) impl.Host { return hostOf(id, unitOf(9, index, units[index])) }
	full := func(id, load, index int) impl.Host {
		h, _ := plainPut(loadedHost(id, load), unitOf(9, index, units[index]))
		return h
	}
	for what, life := range map[string]struct{ before, after []impl.Host }{
		"the least load first": {
			[]impl.Host{there(1, 0), there(2, 1), there(3, 2), loadedHost(4, 5), loadedHost(5, 2), loadedHost(6, 3)},
			[]impl.Host{there(1, 0), there(2, 1), there(3, 2), loadedHost(4, 5), full(5, 2, 3), full(6, 3, 4)},
		},
		"of one load the least Id": {
			[]impl.Host{loadedHost(7, 1), there(1, 0), there(2, 1), loadedHost(6, 1), there(3, 4), loadedHost(5, 1)},
			[]impl.Host{loadedHost(7, 1), there(1, 0), there(2, 1), full(6, 1, 3), there(3, 4), full(5, 1, 2)},
		},
		"fewer hosts than are lost": {
			[]impl.Host{there(1, 2), there(2, 3), there(3, 4), hostOf(4)},
			[]impl.Host{there(1, 2), there(2, 3), there(3, 4), there(4, 0)},
		},
		"no host for any": {
			[]impl.Host{there(1, 2), there(2, 3), there(3, 4), downHost(hostOf(4))},
			[]impl.Host{there(1, 2), there(2, 3), there(3, 4), downHost(hostOf(4))},
		},
		"two units on one host": {
			[]impl.Host{hostOf(1, unitOf(9, 0, units[0]), unitOf(9, 1, units[1])), there(2, 4), hostOf(3)},
			[]impl.Host{hostOf(1, unitOf(9, 0, units[0]), unitOf(9, 1, units[1])), there(2, 4), there(3, 2)},
		},
		"one unit on two hosts": {
			[]impl.Host{there(1, 0), there(2, 0), there(3, 1), there(4, 2), hostOf(5)},
			[]impl.Host{there(1, 0), there(2, 0), there(3, 1), there(4, 2), there(5, 3)},
		},
		"a host that is not Up has none": {
			[]impl.Host{downHost(there(1, 0)), there(2, 1), there(3, 2), there(4, 3), there(5, 4), hostOf(6)},
			[]impl.Host{downHost(there(1, 0)), there(2, 1), there(3, 2), there(4, 3), there(5, 4), there(6, 0)},
		},
	} {
		count := plainLeft(life.after, c.s, 9) - plainLeft(life.before, c.s, 9)
		wantHosts(t, what, mustMend(t, what, life.before, c.s, 9, count), life.after)
		wantReadAs(t, what, life.after, c.s, 9, "twelve bytes")
	}
}

// A host that has but a spoilt unit of the group may be taken: the unit that comes stands in its place, or beside it.
func TestHostsWithSpoiltUnitsAreMended(t *testing.T) {
	c := schemas()[0]
	units := c.encoded(c.cut("hall"))
	bad := withSum(unitOf(9, 2, units[2]), 1)
	hosts := []impl.Host{hostOf(1, unitOf(9, 0, units[0])), hostOf(2, unitOf(9, 1, units[1])), hostOf(3, bad)}
	wantHosts(t, "in its place", mustMend(t, "in its place", hosts, c.s, 9, 1),
		[]impl.Host{hosts[0], hosts[1], hostOf(3, unitOf(9, 2, units[2]))})

	bad = withSum(unitOf(9, 0, units[0]), 1)
	hosts[2] = hostOf(3, bad)
	wantHosts(t, "beside it", mustMend(t, "beside it", hosts, c.s, 9, 1),
		[]impl.Host{hosts[0], hosts[1], hostOf(3, bad, unitOf(9, 2, units[2]))})

	// Its load counts the spoilt unit: a host without units comes first.
	hosts[2] = hostOf(3, withSum(unitOf(9, 2, units[2]), 1))
	hosts = append(hosts, hostOf(4))
	wantHosts(t, "another first", mustMend(t, "another first", hosts, c.s, 9, 1),
		[]impl.Host{hosts[0], hosts[1], hosts[2], hostOf(4, unitOf(9, 2, units[2]))})

	// A host with a sound unit and a spoilt one of the group has one that is there.
	hosts = []impl.Host{hostOf(1, unitOf(9, 0, units[0]), withSum(unitOf(9, 2, units[2]), 1)), hostOf(2, unitOf(9, 1, units[1]))}
	wantNotMended(t, "one that is there", hosts, c.s, 9)
}

// An index that the schema has not is no unit of it.
func TestIndexesBeyondTheSchema(t *testing.T) {
	c := schemas()[0]
	units := c.encoded(c.cut("hall"))
	stray := unitOf(9, 3, "stray")
	hosts := []impl.Host{hostOf(1, unitOf(9, 0, units[0])), hostOf(2, unitOf(9, 1, units[1])), hostOf(3, stray)}
	wantGroup(t, "beyond", hosts, c, 9, "hall", []bool{true, true, false})
	wantHosts(t, "beyond", mustMend(t, "beyond", hosts, c.s, 9, 1),
		[]impl.Host{hosts[0], hosts[1], hostOf(3, unitOf(9, 2, units[2]), stray)})
}

func TestGroupsThatAreNotMended(t *testing.T) {
	d := draw(160)
	for _, c := range schemas() {
		text := d.text(c.size())
		whole := mustWrite(t, "whole", loadedHosts(1, 0, 2, 0, 1, 2, 0), c.s, 9, text)
		wantNotMended(t, "whole", whole, c.s, 9)
		wantNotMended(t, "another group", whole, c.s, 8)
		for there := range c.units {
			for _, have := range haves(c.all(), there) {
				for loss, lose := range losses(t, 9) {
					hosts := cloneHosts(whole)
					for index, at := range holders(t, whole, c, 9) {
						if !have[index] {
							hosts[at] = lose(hosts[at], index)
						}
					}
					wantNotMended(t, "too little is left, "+loss, hosts, c.s, 9)
					wantGroup(t, "too little is left, "+loss, hosts, c, 9, text, have)
				}
			}
		}
		wantNotMended(t, "no hosts", nil, c.s, 9)
		wantNotMended(t, "hosts without units", upHosts(7), c.s, 9)
	}
}

func TestOthersAreLeftWhenAGroupIsMended(t *testing.T) {
	d := draw(161)
	for range 40 {
		hosts := upHosts(7)
		of, texts := map[int]schema{}, map[int]string{}
		for group := 1; group <= 12; group++ {
			of[group] = schemas()[d.below(3)]
			texts[group] = d.text(1 + d.below(of[group].size()))
			hosts = mustWrite(t, "whole", hosts, of[group].s, group, texts[group])
		}
		hosts[d.below(7)].Units = nil
		for group := 1; group <= 12; group++ {
			left := plainLeft(hosts, of[group].s, group)
			after := mustMend(t, "one of many", hosts, of[group].s, group, of[group].all()-left)
			for at := range hosts {
				keep := func(h impl.Host) []impl.Unit {
					return slices.DeleteFunc(slices.Clone(h.Units), func(u impl.Unit) bool { return u.Group == group })
				}
				if !slices.Equal(keep(hosts[at]), keep(after[at])) {
					t.Errorf("mending %d changes others: %s, not %s", group, tellHost(after[at]), tellHost(hosts[at]))
				}
			}
			hosts = after
		}
		for group, text := range texts {
			wantApart(t, "all are mended", hosts, of[group], group)
			wantReadAs(t, "all are mended", hosts, of[group].s, group, text)
		}
	}
}

// A unit goes to the first host with the Id, though another one was placed.
func TestSeveralHostsWithOneId(t *testing.T) {
	c := schemas()[0]
	units := c.encoded(c.cut("hall"))
	twins := []impl.Host{loadedHost(1, 2), hostOf(2), hostOf(1), hostOf(3)}
	got := mustWrite(t, "one Id", twins, c.s, 9, "hall")
	first, _ := plainPut(loadedHost(1, 2), unitOf(9, 0, units[0]))
	wantHosts(t, "one Id", got, []impl.Host{first, hostOf(2, unitOf(9, 1, units[1])), hostOf(1), hostOf(3, unitOf(9, 2, units[2]))})

	got = mustWrite(t, "one Id alone", []impl.Host{hostOf(4), hostOf(4), hostOf(4)}, c.s, 9, "hall")
	wantHosts(t, "one Id alone", got, []impl.Host{hostOf(4, unitOf(9, 0, units[0]), unitOf(9, 1, units[1]), unitOf(9, 2, units[2])), hostOf(4), hostOf(4)})
	wantReadAs(t, "one Id alone", got, c.s, 9, "hall")

	wantNotWritten(t, "the first one is not Up", []impl.Host{downHost(hostOf(1)), hostOf(2), hostOf(1), hostOf(3)}, c.s, 9, "hall")
	wrong := hostOf(1, unitOf(5, 1, "b"), unitOf(5, 0, "a"))
	wantNotWritten(t, "the first one is not right", []impl.Host{wrong, hostOf(2), hostOf(1), hostOf(3)}, c.s, 9, "hall")
	got = mustWrite(t, "the second one is not Up", []impl.Host{hostOf(1), hostOf(2), downHost(hostOf(1)), hostOf(3)}, c.s, 9, "hall")
	wantReadAs(t, "the second one is not Up", got, c.s, 9, "hall")

	// Mend takes a host, not an Id: of several alike the first one.
	a, b := hostOf(1, unitOf(9, 0, units[0])), hostOf(2, unitOf(9, 1, units[1]))
	c3 := hostOf(3, unitOf(9, 2, units[2]))
	for what, life := range map[string][2][]impl.Host{
		"the first of two":      {{a, hostOf(3), b, hostOf(3)}, {a, c3, b, hostOf(3)}},
		"the second has less":   {{a, loadedHost(3, 1), b, hostOf(3)}, {a, loadedHost(3, 1), b, c3}},
		"the first is not Up":   {{a, downHost(hostOf(3)), b, hostOf(3)}, {a, downHost(hostOf(3)), b, c3}},
		"the first has a unit":  {{a, b, hostOf(1)}, {a, b, hostOf(1, unitOf(9, 2, units[2]))}},
		"many, of which are up": {{a, downHost(hostOf(3)), hostOf(3), hostOf(3), hostOf(3), b}, {a, downHost(hostOf(3)), c3, hostOf(3), hostOf(3), b}},
	} {
		wantHosts(t, what, mustMend(t, what, life[0], c.s, 9, 1), life[1])
	}
}

func TestNothingIsPutOnHostsThatAreNotRight(t *testing.T) {
	for what, h := range wrongHosts() {
		for _, c := range schemas() {
			// It has the least load, so that it is the first one to be taken, wherever it stands.
			for at := range c.all() + 1 {
				hosts := slices.Insert(upHosts(c.all() + 1)[1:], at, h)
				for n := range hosts {
					if n != at && len(h.Units) > 0 {
						hosts[n].Units = loadedHost(1, len(h.Units)+1).Units
					}
				}
				wantNotWritten(t, what, hosts, c.s, 11, "hall")
				if at < c.all() {
					wantNotWritten(t, what+", with too few others", hosts[:c.all()], c.s, 11, "hall")
				}
				wantAsPlainPlaces(t, what, hosts, c.s, 11, c.all(), "hall")
			}
			// The others, which are placed ahead of it, have nothing put on them, either.
			wantNotWritten(t, what+", placed last", append(upHosts(c.all())[1:], h), c.s, 11, "hall")
			hosts := mustWrite(t, what, loadedHosts(5, 5, 5, 5, 5, 5, 5), c.s, 11, "hall")
			for at := range c.sums {
				hosts[at], _ = plainDrop(hosts[at], 11, at)
			}
			for at := range 8 {
				with := slices.Insert(cloneHosts(hosts), at, h)
				mended := mustMend(t, what, with, c.s, 11, c.sums)
				wantReadAs(t, what, mended, c.s, 11, "hall")
				wantApart(t, what, slices.Delete(cloneHosts(mended), at, at+1), c, 11)
				if !sameHost(mended[at], h) {
					t.Errorf("%s: it is put on: %s", what, tellHost(mended[at]))
				}
			}
			lone := append(cloneHosts(hosts[c.sums:c.all()]), h)
			wantNotMended(t, what+", and no other", lone, c.s, 11)
		}
	}
}

// A host that is not right but is not placed is left as it is.
func TestHostsThatAreNotRightBesideOthers(t *testing.T) {
	for what, h := range wrongHosts() {
		for _, c := range schemas() {
			down := append(upHosts(c.all()), downHost(h))
			wantReadAs(t, what+", not Up", mustWrite(t, what, down, c.s, 9, "hall"), c.s, 9, "hall")
			if len(h.Units) > 0 {
				got := mustWrite(t, what, append(upHosts(7), h), c.s, 9, "hall")
				if !sameHost(got[7], h) {
					t.Errorf("%s: %s", what, tellHost(got[7]))
				}
			}
		}
	}
}

// What lies on a host that is not right is got, as GetUnit gets it.
func TestUnitsOnHostsThatAreNotRight(t *testing.T) {
	for _, c := range schemas() {
		units := c.encoded(c.cut("hall"))
		hosts := upHosts(7)
		for index := range c.all() {
			hosts[index] = impl.Host{Id: 90 + index, Up: true, Units: []impl.Unit{unitOf(0, index, units[index]), unitOf(9, index, units[index]), unitOf(-3, index, units[index])}}
		}
		for _, group := range []int{0, 9, -3} {
			wantGroup(t, "not right", hosts, c, group, "hall", slices.Repeat([]bool{true}, c.all()))
			wantNotMended(t, "not right", hosts, c.s, group)
		}
		hosts[1].Up = false
		for _, group := range []int{0, -3} {
			wantReadAs(t, "not right", hosts, c.s, group, "hall")
			wantNotMended(t, "a group that is none", hosts, c.s, group)
		}
		wantApart(t, "not right", mustMend(t, "not right", hosts, c.s, 9, 1), c, 9)
	}
}

func TestUnitsThatAreTooLongToBeMended(t *testing.T) {
	for _, c := range schemas() {
		for _, length := range []int{199, 200, 201, 300} {
			var texts []string
			for index := range c.units {
				texts = append(texts, drawn(1500+index, length))
			}
			texts = c.encoded(texts)
			hosts := upHosts(7)
			for index := range c.units {
				hosts[index].Units = []impl.Unit{unitOf(9, index, texts[index])}
			}
			wantReadAs(t, "long units", hosts, c.s, 9, c.joined(texts, c.size()))
			if length > 200 {
				wantNotMended(t, "long units", hosts, c.s, 9)
			} else {
				wantApart(t, "long units", mustMend(t, "long units", hosts, c.s, 9, c.sums), c, 9)
			}
		}
	}
}

func TestDrawnLivesOfGroups(t *testing.T) {
	d := draw(162)
	done := map[string]int{}
	for range 60 {
		hosts := upHosts(4 + d.below(4))
		for range 80 {
			c := schemas()[d.below(3)]
			group, at := 1+d.below(5), d.below(len(hosts))
			text := d.text(d.below(c.size() + 2))
			wantAsPlainPlaces(t, "a drawn life", hosts, c.s, group, d.below(10)-1, text)
			var ok bool
			count := 0
			what := []string{"write", "write", "write", "mend", "mend", "up", "up", "down", "lose", "spoil", "spoil", "drop"}[d.below(12)]
			switch what {
			case "write":
				hosts, ok = impl.WriteGroup(hosts, c.s, group, text)
			case "mend":
				hosts, count = impl.Mend(hosts, c.s, group)
				ok = count > 0
			case "up", "down":
				ok = hosts[at].Up != (what == "up")
				hosts[at].Up = what == "up"
			case "lose":
				ok = len(hosts[at].Units) > 0
				hosts[at].Units = nil
			case "spoil":
				_, index, _ := one(hosts[at], group)
				hosts[at], ok = impl.Spoil(hosts[at], group, index, d.below(9))
			case "drop":
				_, index, _ := one(hosts[at], group)
				hosts[at], ok = impl.DropUnit(hosts[at], group, index)
			}
			if ok {
				done[what]++
			}
		}
	}
	for what, least := range map[string]int{"write": 300, "mend": 60, "down": 150, "up": 150, "lose": 150, "spoil": 50, "drop": 50} {
		if done[what] < least {
			t.Errorf("too little was done: %v", done)
		}
	}
}

// The test keeps of each group its text, and how many of its units are lost since it was written or mended.
func TestGroupsThatAreWrittenAreRead(t *testing.T) {
	d := draw(163)
	for range 60 {
		hosts := upHosts(7)
		of, texts := map[int]schema{}, map[int]string{}
		for round := range 60 {
			if group := len(of) + 1; group <= 6 && round%3 == 0 {
				of[group] = schemas()[d.below(3)]
				texts[group] = d.text(1 + d.below(of[group].size()))
				hosts = mustWrite(t, "a life", hosts, of[group].s, group, texts[group])
			}
			at := d.below(7)
			if d.below(2) == 0 || len(hosts[at].Units) == 0 {
				hosts[at].Units = nil
			} else {
				u := hosts[at].Units[d.below(len(hosts[at].Units))]
				hosts[at], _ = impl.Spoil(hosts[at], u.Group, u.Index, d.below(20))
			}
			for group, c := range of {
				wantReadAs(t, "a unit is lost", hosts, c.s, group, texts[group])
				hosts, _ = impl.Mend(hosts, c.s, group)
				wantApart(t, "mended", hosts, c, group)
				wantReadAs(t, "mended", hosts, c.s, group, texts[group])
			}
		}
	}
}

// host draws a host, most of which are right, with units of few groups.
func (d *draw) host() impl.Host {
	h := impl.Host{Id: 1 + d.below(7), Up: d.below(5) > 0}
	units := []string{"hall", "door", "room", "yard"}
	for group := 1; group <= 2; group++ {
		for index := range 6 {
			if d.below(3) > 0 {
				continue
			}
			u := unitOf(group, index, units[d.below(4)])
			if d.below(6) == 0 {
				u.Sum = d.below(9)
			}
			h.Units = append(h.Units, u)
		}
	}
	switch d.below(12) {
	case 0:
		h.Id = []int{0, 8, -1, 99, math.MaxInt, math.MinInt}[d.below(6)]
	case 1:
		slices.Reverse(h.Units)
	case 2:
		h.Units = append(h.Units, d.unit())
	}
	return h
}

func TestHostsThatAreDrawn(t *testing.T) {
	d := draw(164)
	written, mended := 0, 0
	for range 12000 {
		var hosts []impl.Host
		for range d.below(10) {
			hosts = append(hosts, d.host())
		}
		s, group := 1+d.below(3), 1+d.below(3)
		text := d.text(d.below(20))
		wantAsPlainPlaces(t, "drawn hosts", hosts, s, group, d.below(36)-2, text)
		if _, ok := plainWrite(hosts, s, group, text); ok {
			written++
		}
		if _, count := plainMend(hosts, s, group); count > 0 {
			mended++
		}
	}
	if written < 1500 || mended < 500 {
		t.Errorf("%d were written and %d mended", written, mended)
	}
}

func TestManyHosts(t *testing.T) {
	var hosts []impl.Host
	for n := range 500 {
		hosts = append(hosts, loadedHost(1+(n*5)%7, (n*37)%11))
	}
	for _, n := range []int{0, 1, 250, 499, 500, 501} {
		wantAsPlainPlaces(t, "many hosts", hosts, impl.SchemaWide, 9, n, "hall")
	}
	ids, ok := impl.PlaceGroup(hosts, 500)
	if !ok || len(ids) != 500 {
		t.Fatalf("PlaceGroup tells %d, %v", len(ids), ok)
	}
}

// answersOfHosts are all lists of hosts that the chapter's functions answer.
func answersOfHosts(hosts []impl.Host, s, group int, text string) map[string][]impl.Host {
	written, _ := impl.WriteGroup(hosts, s, group, text)
	mended, _ := impl.Mend(hosts, s, group)
	return map[string][]impl.Host{"WriteGroup": written, "Mend": mended}
}

// callsOnHosts are hosts and groups of which each function is done, or refused.
func callsOnHosts(t *testing.T) map[string]func() ([]impl.Host, int, int, string) {
	return map[string]func() ([]impl.Host, int, int, string){
		"whole":        func() ([]impl.Host, int, int, string) { return wholeGroup(t), 2, 9, "new text" },
		"lost":         func() ([]impl.Host, int, int, string) { return lostGroup(t, 2), 2, 9, "new text" },
		"too few left": func() ([]impl.Host, int, int, string) { return lostGroup(t, 3), 2, 9, "new text" },
		"too long":     func() ([]impl.Host, int, int, string) { return lostGroup(t, 1), 2, 9, strings.Repeat("long", 7) },
		"too few Up":   func() ([]impl.Host, int, int, string) { return wholeGroup(t)[:4], 2, 9, "new text" },
		"no schema":    func() ([]impl.Host, int, int, string) { return wholeGroup(t), 4, 9, "new text" },
		"no group":     func() ([]impl.Host, int, int, string) { return wholeGroup(t), 2, 0, "new text" },
		"not right": func() ([]impl.Host, int, int, string) {
			return append(wholeGroup(t), impl.Host{Id: 0, Up: true}), 2, 9, "new text"
		},
	}
}

func wholeGroup(t *testing.T) []impl.Host {
	t.Helper()
	return cloneHosts(mustWrite(t, "for memory", loadedHosts(2, 3, 2, 3, 2, 3, 2), 2, 9, "a text of a group"))
}

func lostGroup(t *testing.T, count int) []impl.Host {
	t.Helper()
	hosts := wholeGroup(t)
	for _, at := range holders(t, hosts, schemas()[1], 9)[:count] {
		hosts[at], _ = plainDrop(hosts[at], 9, slices.Index(holders(t, hosts, schemas()[1], 9), at))
	}
	return hosts
}

func TestAnswersOfHostsAreNewMemory(t *testing.T) {
	for what, call := range callsOnHosts(t) {
		hosts, s, group, text := call()
		text = ownText(text)
		texts := []string{text}
		for _, h := range hosts {
			for i := range h.Units {
				h.Units[i].Text = ownText(h.Units[i].Text)
				texts = append(texts, h.Units[i].Text)
			}
		}
		for name, after := range answersOfHosts(hosts, s, group, text) {
			var own []string
			for _, h := range after {
				for _, u := range h.Units {
					own = append(own, u.Text)
				}
			}
			wantNewTexts(t, what+", "+name, own, texts)
		}
		units, have := impl.UnitsOf(hosts, s, group)
		own := slices.DeleteFunc(units, func(unit string) bool { return unit == "" })
		wantNewTexts(t, what+", UnitsOf", own, texts)
		if read, ok := impl.ReadGroup(hosts, s, group, 10); ok {
			wantNewTexts(t, what+", ReadGroup", []string{read}, texts)
		}
		if len(have) != 0 && len(have) != 5 {
			t.Errorf("%s: UnitsOf tells %v", what, have)
		}
	}
}

// hostsWithRoom have marks behind the list and behind the units of each host; room has all of it.
func hostsWithRoom(hosts []impl.Host) ([]impl.Host, func() []impl.Host) {
	mark := unitOf(77, 7, "mark")
	roomy := spare(hosts, hostOf(77, mark))
	for at := range roomy {
		roomy[at].Units = spare(roomy[at].Units, mark)
	}
	return roomy, func() []impl.Host {
		var all []impl.Host
		for at, h := range roomy[:len(roomy)+3] {
			if at < len(roomy) {
				h.Units = h.Units[:len(h.Units)+3]
			}
			all = append(all, cloneHost(h))
		}
		return all
	}
}

func scribbleHosts(hosts []impl.Host) {
	for _, h := range hosts {
		scribbleUnits(h)
	}
	hosts = hosts[:cap(hosts)]
	for at := range hosts {
		hosts[at] = impl.Host{Id: -1, Units: []impl.Unit{{Group: -1}}}
	}
}

func TestListsOfHostsAreNotWrittenInto(t *testing.T) {
	for what, call := range callsOnHosts(t) {
		hosts, s, group, text := call()
		roomy, room := hostsWithRoom(hosts)
		before := room()
		for name, after := range answersOfHosts(roomy, s, group, text) {
			wantHosts(t, what+", "+name+", what was handed in", room(), before)
			scribbleHosts(after)
			wantHosts(t, what+", "+name+", what was handed in, behind the answer is written over", room(), before)
		}
		for n := -1; n <= 8; n++ {
			ids, _ := impl.PlaceGroup(roomy, n)
			scribbleNumbers(ids[:cap(ids)])
			impl.ReadGroup(roomy, s, group, n)
		}
		units, have := impl.UnitsOf(roomy, s, group)
		clear(units[:cap(units)])
		clear(have[:cap(have)])
		impl.LeftOf(roomy, s, group)
		impl.LoadOf(roomy[0])
		wantHosts(t, what+", what was handed in", room(), before)
	}
}

// No two hosts of one answer share units.
func TestHostsOfOneAnswerAreApart(t *testing.T) {
	for what, call := range callsOnHosts(t) {
		hosts, s, group, text := call()
		for name, after := range answersOfHosts(hosts, s, group, text) {
			for at := range after {
				want := cloneHosts(after)
				want[at].Units = nil
				scribbleUnits(after[at])
				after[at].Units = nil
				wantHosts(t, what+", "+name, after, want)
			}
		}
	}
	// Nor do those of hosts that share them.
	units := []impl.Unit{unitOf(1, 0, "a"), unitOf(1, 1, "b")}
	shared := []impl.Host{hostOf(1, units...), hostOf(2, units...), hostOf(3, units...)}
	for name, after := range answersOfHosts(shared, impl.SchemaSmall, 1, "hall") {
		want := cloneHosts(after)
		scribbleUnits(after[0])
		wantHosts(t, "shared, "+name, after[1:], want[1:])
	}
}

func TestTextsOfGroupsAreNotWrittenInto(t *testing.T) {
	for _, c := range schemas() {
		for _, length := range []int{1, 7, c.size(), c.size() + 1} {
			own := drawn(165, length)
			bytes := []byte(own + "behind")
			seen := unsafe.String(&bytes[0], length)
			hosts, _ := impl.WriteGroup(upHosts(7), c.s, 9, seen)
			if string(bytes) != own+"behind" {
				t.Errorf("a text, or what is behind it, is written into: %q", bytes)
			}
			clear(bytes)
			if length <= c.size() {
				wantReadAs(t, "written over", hosts, c.s, 9, own)
			}
		}
	}
}

func TestGroupsAreToldAlikeEachTime(t *testing.T) {
	for what, call := range callsOnHosts(t) {
		hosts, s, group, text := call()
		for range 20 {
			wantAsPlainPlaces(t, what, hosts, s, group, 5, text)
			for _, after := range answersOfHosts(hosts, s, group, text) {
				scribbleHosts(after)
			}
		}
	}
}

func TestNoCallOnGroupsPanics(t *testing.T) {
	far := []int{math.MinInt, math.MinInt + 1, math.MinInt32, -1, 0, 1, 2, 3, 4, 7, 8, 100000, 100001, 1 << 32, math.MaxInt - 1, math.MaxInt}
	lists := [][]impl.Host{
		nil,
		upHosts(7),
		{{}, {}, {}, {}, {}, {}, {}},
		{{Up: true}, {Up: true}, {Up: true}, {Up: true}, {Up: true}, {Up: true}},
	}
	for _, group := range far {
		odd := []impl.Host{}
		for index, id := range far {
			odd = append(odd, hostOf(id, unitOf(group, index, "odd"), unitOf(group, id, "odd")))
		}
		lists := append(slices.Clone(lists), odd, mustWrite(t, "right", upHosts(6), 3, 1, "hall"))
		for _, hosts := range lists {
			for _, s := range far {
				for _, n := range far {
					wantAsPlainPlaces(t, "far numbers", hosts, s, group, n, "hall")
				}
			}
		}
	}
}
