package tests

import (
	"fmt"
	"maps"
	"math"
	"slices"
	"strings"
	"sync"
	"testing"
	"unsafe"

	"loop.example/g00197/impl"
)

func leaseOf(p string, who, seen int) impl.Lease {
	return impl.Lease{Path: p, Who: who, Seen: seen}
}

// ninePaths ascend: a beginning is less, and a slash is less than each byte of a name.
func ninePaths() []string {
	return []string{"/0", "/9/a", "/a", "/a/b", "/a/b/c/d", "/a0", "/aa", "/hall/door", "/zyxw9876"}
}

// leasesOf are the first of the nine, one more than a list may have, each of another one's, seen at 100.
func leasesOf(count int) []impl.Lease {
	var list []impl.Lease
	for i, p := range ninePaths()[:count] {
		list = append(list, leaseOf(p, 1+i, 100))
	}
	return list
}

// withLease is a list in which one is in the place of another.
func withLease(list []impl.Lease, at int, l impl.Lease) []impl.Lease {
	list = slices.Clone(list)
	list[at] = l
	return list
}

func tellLeases(list []impl.Lease) string {
	out := fmt.Sprintf("%d leases:", len(list))
	for _, l := range list {
		out += fmt.Sprintf(" %.20q %d at %d", l.Path, l.Who, l.Seen)
	}
	return fmt.Sprintf("%.600s", out)
}

func plainLeaseOk(l impl.Lease) bool {
	return isNamedPath(l.Path) && between(l.Who, [2]int{1, 9}) && between(l.Seen, [2]int{0, 1000000000})
}

func plainLeasesOk(list []impl.Lease) bool {
	last := ""
	for _, l := range list {
		if !plainLeaseOk(l) || !(last < l.Path) {
			return false
		}
		last = l.Path
	}
	return len(list) < 9
}

// oldAt has each time that is so long ago, one by one, from the oldest on.
func oldAt(seen, ago, now int) bool {
	for age := range ago {
		if seen == now-age {
			return false
		}
	}
	return seen < now
}

func plainTake(list []impl.Lease, p string, who, now int) ([]impl.Lease, bool) {
	wanted := leaseOf(p, who, now)
	if !plainLeasesOk(list) || !plainLeaseOk(wanted) {
		return list, false
	}
	byPath := map[string]impl.Lease{}
	for _, l := range list {
		byPath[l.Path] = l
	}
	if l, there := byPath[p]; there && l.Who != who && !oldAt(l.Seen, 5, now) {
		return list, false
	}
	byPath[p] = wanted
	if len(byPath) > 8 {
		return list, false
	}
	var after []impl.Lease
	for _, p := range slices.Sorted(maps.Keys(byPath)) {
		after = append(after, byPath[p])
	}
	return after, true
}

func plainRenew(list []impl.Lease, who, now int) []impl.Lease {
	var after []impl.Lease
	for _, l := range list {
		if l.Who == who {
			l = leaseOf(l.Path, who, now)
		}
		after = append(after, l)
	}
	return after
}

func plainDropLease(list []impl.Lease, p string) []impl.Lease {
	var after []impl.Lease
	for _, l := range list {
		if l.Path != p {
			after = append(after, l)
		}
	}
	return after
}

func plainExpired(list []impl.Lease, now int) []string {
	var paths []string
	for _, l := range list {
		may := between(now, [2]int{0, 1000000000}) && between(l.Seen, [2]int{0, 1000000000})
		if may && oldAt(l.Seen, 12, now) {
			paths = append(paths, l.Path)
		}
	}
	return paths
}

func plainHolder(list []impl.Lease, p string) int {
	at := slices.IndexFunc(list, func(l impl.Lease) bool { return l.Path == p })
	if at < 0 {
		return 0
	}
	return list[at].Who
}

func wantLeases(t *testing.T, what string, got, want []impl.Lease) {
	t.Helper()
	if !slices.Equal(got, want) {
		t.Fatalf("%s: %s, want %s", what, tellLeases(got), tellLeases(want))
	}
}

func wantLeasesOk(t *testing.T, what string, list []impl.Lease, want bool) {
	t.Helper()
	if impl.LeasesOk(list) != want {
		t.Errorf("%s: LeasesOk is %v of %s", what, !want, tellLeases(list))
	}
	if plainLeasesOk(list) != want {
		t.Errorf("%s: the test's own LeasesOk is %v of %s", what, !want, tellLeases(list))
	}
}

// mustTake takes a lease and asks whether it is who's, Seen now, and the list right, with the others as they were.
func mustTake(t *testing.T, what string, list []impl.Lease, p string, who, now int) []impl.Lease {
	t.Helper()
	what = fmt.Sprintf("%s, %d takes %s at %d", what, who, p, now)
	before := slices.Clone(list)
	got, ok := impl.TakeLease(list, p, who, now)
	if !ok {
		t.Fatalf("%s: false of %s", what, tellLeases(list))
	}
	wantLeases(t, what+", what was handed in", list, before)
	wantLeasesOk(t, what, got, true)
	wantHolder(t, what, got, p, who)
	if !slices.Contains(got, leaseOf(p, who, now)) {
		t.Errorf("%s: it isn't there: %s", what, tellLeases(got))
	}
	wantLeases(t, what+", the others", plainDropLease(got, p), plainDropLease(list, p))
	return got
}

func wantNotTaken(t *testing.T, what string, list []impl.Lease, p string, who, now int) {
	t.Helper()
	before := slices.Clone(list)
	got, ok := impl.TakeLease(list, p, who, now)
	if ok {
		t.Errorf("%s: %d takes %.40q at %d of %s", what, who, p, now, tellLeases(before))
	}
	wantLeases(t, what, got, before)
}

func wantHolder(t *testing.T, what string, list []impl.Lease, p string, want int) {
	t.Helper()
	if who := impl.HolderOf(list, p); who != want {
		t.Errorf("%s: HolderOf %.40q is %d, want %d, of %s", what, p, who, want, tellLeases(list))
	}
}

func wantExpired(t *testing.T, what string, list []impl.Lease, now int, want ...string) {
	t.Helper()
	if paths := impl.Expired(list, now); !slices.Equal(paths, want) {
		t.Errorf("%s: Expired at %d = %.40q, want %.40q, of %s", what, now, paths, want, tellLeases(list))
	}
}

// wantAsPlainLeases asks all functions of the chapter, each against the test's own.
func wantAsPlainLeases(t *testing.T, what string, list []impl.Lease, p string, who, now int) {
	t.Helper()
	before := slices.Clone(list)
	if ok := impl.LeasesOk(list); ok != plainLeasesOk(list) {
		t.Errorf("%s: LeasesOk is %v of %s", what, ok, tellLeases(list))
	}
	got, ok := impl.TakeLease(list, p, who, now)
	want, wantOk := plainTake(list, p, who, now)
	if ok != wantOk {
		t.Errorf("%s: TakeLease of %.40q, %d, %d is %v of %s", what, p, who, now, ok, tellLeases(list))
	}
	wantLeases(t, what+", TakeLease", got, want)
	wantLeases(t, what+", RenewLeases", impl.RenewLeases(list, who, now), plainRenew(list, who, now))
	wantLeases(t, what+", DropLease", impl.DropLease(list, p), plainDropLease(list, p))
	wantExpired(t, what, list, now, plainExpired(list, now)...)
	wantHolder(t, what, list, p, plainHolder(list, p))
	wantLeases(t, what+", what was handed in", list, before)
}

// wrongLeases are not right, each for one cause.
func wrongLeases() map[string][]impl.Lease {
	three := []impl.Lease{leaseOf("/b", 1, 5), leaseOf("/c", 2, 6), leaseOf("/d", 3, 7)}
	lists := map[string][]impl.Lease{
		"nine":                          leasesOf(9),
		"nothing":                       {{}},
		"one twice":                     {three[0], three[0]},
		"two of one Path":               {leaseOf("/b", 1, 5), leaseOf("/b", 2, 6)},
		"two of one Path that are old":  {leaseOf("/b", 2, 0), leaseOf("/b", 1, 0), three[1]},
		"two of one Path, apart":        {three[0], three[1], leaseOf("/b", 2, 5)},
		"two in the wrong order":        {three[1], three[0]},
		"the last in the wrong order":   {three[0], three[2], three[1]},
		"a beginning behind the longer": {leaseOf("/b/a", 1, 5), leaseOf("/b", 1, 5)},
		"a slash behind a name's byte":  {leaseOf("/b0", 1, 5), leaseOf("/b/a", 1, 5)},
		"figures behind letters":        {leaseOf("/ba", 1, 5), leaseOf("/b9", 1, 5)},
	}
	for at := range three {
		for what, l := range map[string]impl.Lease{
			"Who 0":               leaseOf(three[at].Path, 0, 5),
			"Who 10":              leaseOf(three[at].Path, 10, 5),
			"Who below 0":         leaseOf(three[at].Path, -1, 5),
			"the greatest Who":    leaseOf(three[at].Path, math.MaxInt, 5),
			"the least Who":       leaseOf(three[at].Path, math.MinInt, 5),
			"Seen below 0":        leaseOf(three[at].Path, 1, -1),
			"Seen too late":       leaseOf(three[at].Path, 1, impl.MaxNumber+1),
			"the greatest Seen":   leaseOf(three[at].Path, 1, math.MaxInt),
			"the least Seen":      leaseOf(three[at].Path, 1, math.MinInt),
			"a slash behind":      leaseOf(three[at].Path+"/", 1, 5),
			"a capital":           leaseOf(three[at].Path+"A", 1, 5),
			"a name of nine":      leaseOf(three[at].Path+"12345678", 1, 5),
			"five names":          leaseOf(three[at].Path+"/a/b/c/d", 1, 5),
			"two slashes between": leaseOf(three[at].Path+"//a", 1, 5),
		} {
			lists[fmt.Sprintf("%s, place %d", what, at)] = withLease(three, at, l)
		}
	}
	// Each of these is less than all paths, so that it stands in its place.
	for what, p := range map[string]string{"the empty path": "", "the root": "/", "two slashes": "//", "no slash ahead": "+b"} {
		lists[what] = withLease(three, 0, leaseOf(p, 1, 5))
		lists[what+", alone"] = []impl.Lease{leaseOf(p, 1, 5)}
	}
	return lists
}

func TestLimitsOfLeases(t *testing.T) {
	if impl.SoftTime != 5 || impl.HardTime != 12 {
		t.Errorf("SoftTime is %d, HardTime %d", impl.SoftTime, impl.HardTime)
	}
	l := impl.Lease{Path: "/hall", Who: 1, Seen: 2}
	if got := fmt.Sprintf("%+v", l); got != "{Path:/hall Who:1 Seen:2}" {
		t.Errorf("a lease is %s", got)
	}
}

func TestLeasesThatAreRight(t *testing.T) {
	wantLeasesOk(t, "none", nil, true)
	wantLeasesOk(t, "an empty list", []impl.Lease{}, true)
	for count := range 10 {
		wantLeasesOk(t, "the nine", leasesOf(count), count <= 8)
		wantLeasesOk(t, "the nine, the last ones", leasesOf(9)[9-count:], count <= 8)
	}
	wantLeasesOk(t, "behind it", spare(leasesOf(8), leaseOf("", 0, -1)), true)
	for at := range 8 {
		for who := -2; who <= 12; who++ {
			wantLeasesOk(t, "a Who", withLease(leasesOf(8), at, leaseOf(ninePaths()[at], who, 5)), who >= 1 && who <= 9)
		}
		for _, seen := range []int{0, 1, 100, impl.MaxNumber - 1, impl.MaxNumber} {
			wantLeasesOk(t, "a Seen", withLease(leasesOf(8), at, leaseOf(ninePaths()[at], 1, seen)), true)
		}
		for _, seen := range []int{-1, -2, impl.MaxNumber + 1, impl.MaxNumber + 2} {
			wantLeasesOk(t, "a Seen", withLease(leasesOf(8), at, leaseOf(ninePaths()[at], 1, seen)), false)
		}
	}
	var alike []impl.Lease
	for _, p := range ninePaths()[:8] {
		alike = append(alike, leaseOf(p, 4, 0))
	}
	wantLeasesOk(t, "all of one holder", alike, true)
}

func TestLeasesThatAreNotRight(t *testing.T) {
	for what, list := range wrongLeases() {
		wantLeasesOk(t, what, list, false)
	}
	for order, places := range inEachOrder(8) {
		var list []impl.Lease
		for _, at := range places {
			list = append(list, leasesOf(8)[at])
		}
		wantLeasesOk(t, order, list, order == "ascending")
	}
	for at := range 8 {
		for other := range 9 {
			list := withLease(leasesOf(8), at, leaseOf(ninePaths()[other], 1, 5))
			wantLeasesOk(t, "a path in another place", list, at == other || at == 7 && other == 8)
		}
	}
	for _, far := range roundAbout(5) {
		wantLeasesOk(t, "a far Who", []impl.Lease{leaseOf("/a", far, 5)}, between(far, [2]int{1, 9}))
		wantLeasesOk(t, "a far Seen", []impl.Lease{leaseOf("/a", 5, far)}, between(far, [2]int{0, impl.MaxNumber}))
	}
}

func TestLeasesByTheirPaths(t *testing.T) {
	for _, p := range pathsOfEachDepth() {
		wantLeasesOk(t, "a path", []impl.Lease{leaseOf(p, 1, 5)}, p != "/")
		if p == "/" {
			wantNotTaken(t, "the root", nil, p, 1, 5)
			continue
		}
		list := mustTake(t, "a path", nil, p, 1, 5)
		wantLeases(t, "dropped", impl.DropLease(list, p), nil)
		wantNotTaken(t, "a path with a slash behind", list, p+"/", 1, 5)
		wantHolder(t, "a path with a slash behind", list, p+"/", 0)
	}
	for what, p := range textsThatAreNoPaths() {
		list := []impl.Lease{leaseOf(p, 1, 5)}
		wantLeasesOk(t, what, list, false)
		wantNotTaken(t, what, nil, p, 1, 5)
		wantNotTaken(t, what, leasesOf(3), p, 1, 5)
		wantNotTaken(t, what+" on a list that has it", list, p, 1, 50)
		wantNotTaken(t, what+" on a list that has it", list, "/a", 1, 50)
		wantHolder(t, what, leasesOf(3), p, 0)
		wantHolder(t, what+" on a list that has it", list, p, 1)
		wantLeases(t, what, impl.DropLease(leasesOf(3), p), leasesOf(3))
		wantLeases(t, what+" on a list that has it", impl.DropLease(list, p), nil)
		wantExpired(t, what+" on a list that has it", list, 17, p)
	}
}

// A lease that nobody has comes into its place.
func TestLeasesThatNobodyHas(t *testing.T) {
	for order, places := range inEachOrder(8) {
		var list []impl.Lease
		for n, at := range places {
			p := ninePaths()[at]
			wantHolder(t, order, list, p, 0)
			list = mustTake(t, order, list, p, 1+at, 100)
			if len(list) != n+1 {
				t.Fatalf("%s: %s", order, tellLeases(list))
			}
		}
		wantLeases(t, order, list, leasesOf(8))
	}
	for who := 1; who <= 9; who++ {
		for _, now := range []int{0, 1, 12, impl.MaxNumber - 1, impl.MaxNumber} {
			wantLeases(t, "the first one", mustTake(t, "none", nil, "/f", who, now), []impl.Lease{leaseOf("/f", who, now)})
			wantLeases(t, "the first one", mustTake(t, "an empty list", []impl.Lease{}, "/f", who, now), []impl.Lease{leaseOf("/f", who, now)})
			mustTake(t, "between others", leasesOf(7), "/b", who, now)
		}
	}
	// A lease of a path is none of one above it, below it, or with a name that begins as its does.
	one := []impl.Lease{leaseOf("/a/b", 1, 100)}
	for _, p := range []string{"/a", "/a/b/c", "/a/b0", "/b", "/a/a", "/ab"} {
		mustTake(t, "a path near it", one, p, 2, 100)
	}
}

func TestLeasesThatTheirHoldersTakeAgain(t *testing.T) {
	for at, l := range leasesOf(8) {
		for _, now := range []int{0, 1, 88, 95, 96, 99, 100, 101, 104, 105, 112, impl.MaxNumber} {
			for count := at + 1; count <= 8; count++ {
				got := mustTake(t, "its holder", leasesOf(count), l.Path, l.Who, now)
				wantLeases(t, "its holder", got, withLease(leasesOf(count), at, leaseOf(l.Path, l.Who, now)))
			}
		}
		wantLeases(t, "at the same time", mustTake(t, "its holder", leasesOf(8), l.Path, l.Who, 100), leasesOf(8))
	}
}

// A lease is its holder's until it is old: SoftTime is the first age at which another one takes it.
func TestLeasesThatAreJustOld(t *testing.T) {
	for _, seen := range []int{0, 1, 5, 100, impl.MaxNumber - 12, impl.MaxNumber - 5, impl.MaxNumber - 4, impl.MaxNumber} {
		for age := -30; age <= 30; age++ {
			now := seen + age
			list := []impl.Lease{leaseOf("/d", 5, 77), leaseOf("/f", 1, seen), leaseOf("/g", 2, 77)}
			if now < 0 || now > impl.MaxNumber {
				wantNotTaken(t, "no time", list, "/f", 1, now)
				wantNotTaken(t, "no time", list, "/f", 2, now)
				continue
			}
			mustTake(t, "its holder", list, "/f", 1, now)
			for who := 2; who <= 9; who++ {
				if age < 5 {
					wantNotTaken(t, fmt.Sprintf("Seen %d ago", age), list, "/f", who, now)
					continue
				}
				got := mustTake(t, fmt.Sprintf("Seen %d ago", age), list, "/f", who, now)
				wantLeases(t, "another one", got, withLease(list, 1, leaseOf("/f", who, now)))
				// From here on it is the other one's.
				wantNotTaken(t, "back at once", got, "/f", 1, now)
				if now+4 <= impl.MaxNumber {
					wantNotTaken(t, "back too early", got, "/f", 1, now+4)
				}
				if now+5 <= impl.MaxNumber {
					mustTake(t, "back", got, "/f", 1, now+5)
				}
			}
		}
	}
	// Each lease is old by its own time, whatever the others are.
	for old := range 1 << 4 {
		var list []impl.Lease
		for at := range 4 {
			list = append(list, leaseOf(ninePaths()[at], 1+at, 96-old>>at&1))
		}
		for at := range 4 {
			if old>>at&1 == 1 {
				mustTake(t, "some are old", list, ninePaths()[at], 9, 100)
			} else {
				wantNotTaken(t, "some are old", list, ninePaths()[at], 9, 100)
			}
		}
	}
}

func TestLeasesWhenThereAreEight(t *testing.T) {
	for left, missing := range ninePaths() {
		// All nine paths but one.
		eight := slices.Delete(leasesOf(9), left, left+1)
		wantLeasesOk(t, "eight", eight, true)
		for _, now := range []int{0, 100, 104, 105, 112, impl.MaxNumber} {
			for who := 1; who <= 9; who++ {
				wantNotTaken(t, "there are eight", eight, missing, who, now)
			}
		}
		for at, l := range eight {
			// Of the eight none is more than there may be.
			mustTake(t, "one of eight", eight, l.Path, l.Who, 101)
			mustTake(t, "one of eight that is old", eight, l.Path, 1+l.Who%9, 105)
			wantNotTaken(t, "one of eight that is not", eight, l.Path, 1+l.Who%9, 104)
			seven := slices.Delete(slices.Clone(eight), at, at+1)
			wantLeases(t, "one is dropped", impl.DropLease(eight, l.Path), seven)
			eightAgain := mustTake(t, "there are seven", seven, missing, 3, 100)
			wantNotTaken(t, "there are eight again", eightAgain, l.Path, l.Who, 100)
		}
	}
	nine := leasesOf(9)
	for _, l := range nine {
		wantNotTaken(t, "there are nine", nine, l.Path, l.Who, 200)
	}
	wantNotTaken(t, "there are nine", nine, "/b", 1, 200)
}

func TestLeasesThatCanNotBeTaken(t *testing.T) {
	lists := [][]impl.Lease{nil, {leaseOf("/f", 1, 0)}, leasesOf(7), leasesOf(8)}
	for _, list := range lists {
		for _, p := range []string{"/f", "/a", "/zz"} {
			for _, far := range append(outOfRange(10), 0) {
				wantNotTaken(t, "a Who that is none", list, p, far, 5000)
			}
			for _, far := range append(outOfRange(impl.MaxNumber+1), impl.MaxNumber+5, impl.MaxNumber+12) {
				if far >= 0 && far <= impl.MaxNumber {
					continue
				}
				for who := 0; who <= 10; who++ {
					wantNotTaken(t, "a time that is none", list, p, who, far)
				}
			}
		}
		for _, p := range []string{"", "/", "//", "/f/", "f", "/F", "/a/b/c/d/e", "/a\x00", "/\xff"} {
			wantNotTaken(t, "a path that is none", list, p, 1, 100)
		}
	}
}

// Of a list that is not right no lease is taken, be it one that is right or one that nobody has.
func TestLeasesOfListsThatAreNotRight(t *testing.T) {
	for what, list := range wrongLeases() {
		for _, p := range []string{"/a", "/b", "/c", "/d", "/e", "/b/a", "/zz", "", "/"} {
			for who := 0; who <= 10; who++ {
				for _, now := range []int{-1, 0, 5, 100, impl.MaxNumber} {
					wantNotTaken(t, what, list, p, who, now)
					wantAsPlainLeases(t, what, list, p, who, now)
				}
			}
		}
		for _, l := range list {
			wantNotTaken(t, what, list, l.Path, l.Who, 100)
			wantAsPlainLeases(t, what, list, l.Path, l.Who, 100)
			wantAsPlainLeases(t, what, list, l.Path, l.Who, l.Seen)
		}
	}
}

func TestLeasesThatAreRenewed(t *testing.T) {
	list := []impl.Lease{leaseOf("/a", 1, 10), leaseOf("/b", 2, 20), leaseOf("/c", 1, 30), leaseOf("/d", 3, 10), leaseOf("/e", 1, 99), leaseOf("/f", 9, 0)}
	for _, now := range []int{0, 10, 25, 99, 100, impl.MaxNumber} {
		for who, want := range map[int][]impl.Lease{
			1: {leaseOf("/a", 1, now), list[1], leaseOf("/c", 1, now), list[3], leaseOf("/e", 1, now), list[5]},
			2: {list[0], leaseOf("/b", 2, now), list[2], list[3], list[4], list[5]},
			3: {list[0], list[1], list[2], leaseOf("/d", 3, now), list[4], list[5]},
			4: list,
			9: {list[0], list[1], list[2], list[3], list[4], leaseOf("/f", 9, now)},
		} {
			got := impl.RenewLeases(list, who, now)
			wantLeases(t, fmt.Sprintf("%d renews at %d", who, now), got, want)
			wantLeasesOk(t, "renewed", got, true)
			wantLeases(t, "renewed twice", impl.RenewLeases(got, who, now), want)
		}
		for _, who := range append(outOfRange(10), 0) {
			wantLeases(t, "one that is none renews", impl.RenewLeases(list, who, now), list)
		}
		for count := range 10 {
			for who := 1; who <= 9; who++ {
				want := leasesOf(count)
				if who <= count {
					want = withLease(want, who-1, leaseOf(want[who-1].Path, who, now))
				}
				wantLeases(t, "one of each holder", impl.RenewLeases(leasesOf(count), who, now), want)
			}
		}
	}
	// No sentence asks the list, or the time, to be right.
	for _, now := range []int{-1, math.MinInt, impl.MaxNumber + 1, math.MaxInt} {
		wantLeases(t, "no time", impl.RenewLeases(list[:2], 1, now), []impl.Lease{leaseOf("/a", 1, now), list[1]})
	}
	odd := []impl.Lease{leaseOf("/b", 0, 5), leaseOf("/b", 0, -9), leaseOf("", math.MinInt, 5), leaseOf("/a", 1, 5)}
	wantLeases(t, "Who 0", impl.RenewLeases(odd, 0, 7), []impl.Lease{leaseOf("/b", 0, 7), leaseOf("/b", 0, 7), odd[2], odd[3]})
	wantLeases(t, "the least Who", impl.RenewLeases(odd, math.MinInt, 7), []impl.Lease{odd[0], odd[1], leaseOf("", math.MinInt, 7), odd[3]})
	wantLeases(t, "no leases", impl.RenewLeases(nil, 1, 7), nil)
}

func TestLeasesThatAreDropped(t *testing.T) {
	for count := range 10 {
		list := leasesOf(count)
		for at := range list {
			got := impl.DropLease(list, list[at].Path)
			wantLeases(t, "one is dropped", got, slices.Delete(leasesOf(count), at, at+1))
			wantHolder(t, "one is dropped", got, list[at].Path, 0)
			wantLeases(t, "dropped twice", impl.DropLease(got, list[at].Path), got)
		}
		for _, p := range []string{"", "/", "/b", "/a/", "/a/b/c", "/hall", "/zyxw987", "a", "/A", strings.Repeat("/a", 20000)} {
			wantLeases(t, "one that is not there", impl.DropLease(list, p), list)
		}
		for order, places := range inEachOrder(count) {
			rest := list
			for n, at := range places {
				rest = impl.DropLease(rest, list[at].Path)
				if len(rest) != count-1-n {
					t.Fatalf("%s: behind %d drops: %s", order, n+1, tellLeases(rest))
				}
			}
		}
	}
	twice := []impl.Lease{leaseOf("/b", 1, 5), leaseOf("/a", 2, 6), leaseOf("/b", 3, 7)}
	wantLeases(t, "two of one Path", impl.DropLease(twice, "/b"), twice[1:2])
	wantLeases(t, "no leases", impl.DropLease(nil, "/b"), nil)
}

// HardTime is the first age at which a lease is told.
func TestLeasesThatExpire(t *testing.T) {
	for _, seen := range []int{0, 1, 7, 100, impl.MaxNumber - 13, impl.MaxNumber - 12, impl.MaxNumber - 11, impl.MaxNumber} {
		for age := -30; age <= 30; age++ {
			list := []impl.Lease{leaseOf("/f", 1, seen)}
			if now := seen + age; age >= 12 && now <= impl.MaxNumber {
				wantExpired(t, fmt.Sprintf("Seen %d ago", age), list, now, "/f")
			} else {
				wantExpired(t, fmt.Sprintf("Seen %d ago", age), list, now)
			}
		}
	}
	for old := range 1 << 8 {
		var list []impl.Lease
		var want []string
		for at := range 8 {
			seen := 89
			if old>>at&1 == 1 {
				seen = 88 - at
				want = append(want, ninePaths()[at])
			}
			list = append(list, leaseOf(ninePaths()[at], 1+at, seen))
		}
		wantExpired(t, "some are old", list, 100, want...)
		wantExpired(t, "none is old", list, 80)
		wantExpired(t, "all are old", list, 101, ninePaths()[:8]...)
	}
	list := []impl.Lease{leaseOf("/a", 1, 100), leaseOf("/b", 2, 95), leaseOf("/c", 3, 89), leaseOf("/d", 4, 88), leaseOf("/e", 5, 0)}
	wantExpired(t, "each age", list, 100, "/d", "/e")
	wantExpired(t, "all of one's are renewed", impl.RenewLeases(list, 4, 100), 100, "/e")
	wantExpired(t, "no leases", nil, 100)
}

// Of times that are none a difference says nothing: some of these wrap round to an age of many years.
func TestTimesThatAreNone(t *testing.T) {
	list := []impl.Lease{leaseOf("/a", 1, 0), leaseOf("/b", 2, 12), leaseOf("/c", 3, impl.MaxNumber)}
	for _, now := range append(roundAbout(24), -1, -12, impl.MaxNumber+1, impl.MaxNumber+12, math.MinInt+11, math.MinInt+12) {
		switch {
		case now < 0 || now > impl.MaxNumber:
			wantExpired(t, "now is none", list, now)
		default:
			wantExpired(t, "now", list, now, plainExpired(list, now)...)
		}
	}
	for _, seen := range append(roundAbout(24), -1, -12, impl.MaxNumber+1, math.MinInt+99) {
		if seen >= 0 && seen <= impl.MaxNumber {
			continue
		}
		// The others are told all the same.
		odd := []impl.Lease{leaseOf("/a", 1, 0), leaseOf("/b", 2, seen), leaseOf("/c", 3, 88)}
		for _, now := range []int{0, 100, impl.MaxNumber} {
			wantExpired(t, "Seen is none", odd, now, plainExpired(odd, now)...)
			if slices.Contains(impl.Expired(odd, now), "/b") {
				t.Errorf("what was Seen at %d is told at %d", seen, now)
			}
		}
		wantExpired(t, "both are none", odd, seen)
		for _, now := range []int{-1, math.MinInt, math.MaxInt} {
			wantExpired(t, "both are none", odd, now)
		}
	}
	wantExpired(t, "the last time", list, impl.MaxNumber, "/a", "/b")
	wantExpired(t, "behind it", list, impl.MaxNumber+1)
	wantExpired(t, "just old at the first time", list, 12, "/a")
	wantExpired(t, "not yet", list, 11)
}

func TestHoldersOfLeases(t *testing.T) {
	for count := range 10 {
		list := leasesOf(count)
		for at, p := range ninePaths() {
			if at < count {
				wantHolder(t, "there", list, p, 1+at)
			} else {
				wantHolder(t, "not there", list, p, 0)
			}
		}
		for _, p := range []string{"", "/", "/b", "/a/", "/a/b/c", "/hall", "/hall/doo", "/hall/door/a", "a", "/A", "/\xff"} {
			wantHolder(t, "not there", list, p, 0)
		}
	}
	// A holder is told however old the lease is.
	wantHolder(t, "old", []impl.Lease{leaseOf("/f", 7, 0)}, "/f", 7)
	odd := []impl.Lease{leaseOf("/b", 3, 5), leaseOf("/a", -4, 5), leaseOf("/b", 2, 90), leaseOf("", math.MaxInt, 5)}
	wantHolder(t, "the first of two", odd, "/b", 3)
	wantHolder(t, "out of order", odd, "/a", -4)
	wantHolder(t, "no path", odd, "", math.MaxInt)
}

// One lease is taken, renewed, taken over when it is old, and dropped.
func TestALifeOfALease(t *testing.T) {
	list := mustTake(t, "another file", nil, "/hall/door", 3, 10)
	wantHolder(t, "at first", list, "/f", 0)
	list = mustTake(t, "a life", list, "/f", 1, 10)
	wantNotTaken(t, "it is 1's", list, "/f", 2, 14)
	list = impl.RenewLeases(list, 1, 14)
	wantHolder(t, "renewed", list, "/f", 1)
	wantNotTaken(t, "it was renewed", list, "/f", 2, 18)
	list = mustTake(t, "a life", list, "/f", 1, 18)
	list = impl.RenewLeases(list, 2, 22)
	wantNotTaken(t, "another one renews", list, "/f", 2, 22)
	list = mustTake(t, "it is old", list, "/f", 2, 23)
	list = impl.RenewLeases(list, 1, 27)
	wantHolder(t, "its last holder renews", list, "/f", 2)
	wantNotTaken(t, "it is 2's", list, "/f", 1, 27)
	wantExpired(t, "the other file", list, 34, "/hall/door")
	wantExpired(t, "both", list, 35, "/f", "/hall/door")
	list = impl.DropLease(list, "/f")
	wantHolder(t, "dropped", list, "/f", 0)
	wantHolder(t, "the other file", list, "/hall/door", 3)
	list = mustTake(t, "a life", list, "/f", 4, 28)
	wantLeases(t, "in the end", list, []impl.Lease{leaseOf("/f", 4, 28), leaseOf("/hall/door", 3, 10)})
}

// A lease is its holder's until it is old: the test keeps who took it, and when it was Seen last.
func TestDrawnLivesOfLeases(t *testing.T) {
	d := draw(171)
	paths := append(ninePaths(), "/b", "/b/a")
	done := map[string]int{}
	for range 200 {
		var list []impl.Lease
		holders, seen := map[string]int{}, map[string]int{}
		now := d.below(3)
		for range 150 {
			now += d.below(3)
			p, who := paths[d.below(len(paths))], 1+d.below(4)
			wantAsPlainLeases(t, "a drawn life", list, p, who, now)
			switch d.below(8) {
			case 0, 1, 2, 3, 4:
				holder, there := holders[p]
				free := !there && len(holders) < 8
				again := holder == who
				over := there && !again && now-seen[p] >= 5
				after, ok := impl.TakeLease(list, p, who, now)
				if ok != (free || again || over) {
					t.Fatalf("%d takes %s at %d, which is %d's and was Seen at %d: %v", who, p, now, holder, seen[p], ok)
				}
				switch {
				case ok:
					holders[p], seen[p] = who, now
					done[fmt.Sprintf("taken: free %v, again %v, over %v", free, again, over)]++
				default:
					done[fmt.Sprintf("not taken: there %v", there)]++
				}
				list = after
			case 5:
				list = impl.RenewLeases(list, who, now)
				for p, holder := range holders {
					if holder == who {
						seen[p] = now
					}
				}
				done["renewed"]++
			case 6:
				if d.below(3) == 0 {
					list = impl.DropLease(list, p)
					delete(holders, p)
					done["dropped"]++
				}
			case 7:
				if d.below(2) == 0 {
					continue
				}
				for _, p := range impl.Expired(list, now) {
					if _, there := holders[p]; !there || now-seen[p] < 12 {
						t.Fatalf("%s is told at %d, it was Seen at %d", p, now, seen[p])
					}
					list = impl.DropLease(list, p)
					delete(holders, p)
					done["expired"]++
				}
				for p := range holders {
					if now-seen[p] >= 12 {
						t.Fatalf("%s is not told at %d, it was Seen at %d", p, now, seen[p])
					}
				}
			}
			wantLeasesOk(t, "a drawn life", list, true)
			for _, p := range paths {
				wantHolder(t, "a drawn life", list, p, holders[p])
			}
		}
	}
	for what, least := range map[string]int{
		"taken: free true, again false, over false": 2000,
		"taken: free false, again true, over false": 1000,
		"taken: free false, again false, over true": 1000,
		"not taken: there true":                     1000,
		"not taken: there false":                    500,
		"renewed":                                   1000,
		"dropped":                                   500,
		"expired":                                   400,
	} {
		if done[what] < least {
			t.Errorf("too little was done: %s, of %v", what, done)
		}
	}
}

// lease draws a lease, most of which are right, of few paths and holders.
func (d *draw) lease() impl.Lease {
	l := leaseOf(ninePaths()[d.below(9)], 1+d.below(3), 90+d.below(20))
	switch d.below(30) {
	case 0:
		l.Path = []string{"", "/", "/a/", "a", "/A", "/a/b/c/d/e", d.text(5)}[d.below(7)]
	case 1:
		l.Who = []int{0, 10, -1, math.MaxInt, math.MinInt}[d.below(5)]
	case 2:
		l.Seen = []int{0, -1, impl.MaxNumber, impl.MaxNumber + 1, math.MaxInt, math.MinInt, math.MinInt + 50}[d.below(7)]
	}
	return l
}

func TestLeasesThatAreDrawn(t *testing.T) {
	d := draw(172)
	right, taken := 0, 0
	for range 60000 {
		var list []impl.Lease
		for range d.below(11) {
			list = append(list, d.lease())
		}
		if d.below(4) > 0 {
			slices.SortFunc(list, func(a, b impl.Lease) int { return strings.Compare(a.Path, b.Path) })
		}
		if d.below(4) > 0 {
			list = slices.CompactFunc(list, func(a, b impl.Lease) bool { return a.Path == b.Path })
		}
		wanted := d.lease()
		wantAsPlainLeases(t, "drawn leases", list, wanted.Path, wanted.Who, wanted.Seen)
		if plainLeasesOk(list) {
			right++
		}
		if _, ok := plainTake(list, wanted.Path, wanted.Who, wanted.Seen); ok {
			taken++
		}
	}
	if right < 15000 || right > 45000 || taken < 6000 || taken > right-3000 {
		t.Errorf("%d of 60000 lists are right, and %d leases were taken", right, taken)
	}
}

// leaseLists are lists of which leases are taken, or refused.
func leaseLists() map[string][]impl.Lease {
	return map[string][]impl.Lease{
		"none":            nil,
		"one":             leasesOf(1),
		"some":            leasesOf(5),
		"eight":           leasesOf(8),
		"nine":            leasesOf(9),
		"all of one":      {leaseOf("/a", 2, 100), leaseOf("/b", 2, 100), leaseOf("/c", 2, 88)},
		"two of one Path": {leaseOf("/a", 2, 100), leaseOf("/a", 2, 100), leaseOf("/0", 3, 0)},
		"not right":       {leaseOf("/a/", 2, 100), leaseOf("a", -1, -1)},
	}
}

// answersOfLeases are all lists of leases that the chapter's functions answer.
func answersOfLeases(list []impl.Lease, p string, who, now int) map[string][]impl.Lease {
	taken, _ := impl.TakeLease(list, p, who, now)
	return map[string][]impl.Lease{
		"TakeLease":   taken,
		"RenewLeases": impl.RenewLeases(list, who, now),
		"DropLease":   impl.DropLease(list, p),
	}
}

func scribbleLeases(list []impl.Lease) {
	list = list[:cap(list)]
	for i := range list {
		list[i] = leaseOf("scribble", -7, -7)
	}
}

func TestAnswersOfLeasesAreNewMemory(t *testing.T) {
	for what, list := range leaseLists() {
		for _, p := range []string{"/a", "/b", "/hall/door", "/q", "/a/", "a"} {
			for _, now := range []int{100, 104, 105, 112, -1} {
				own := ownText(p)
				texts := []string{own}
				list := slices.Clone(list)
				for i := range list {
					list[i].Path = ownText(list[i].Path)
					texts = append(texts, list[i].Path)
				}
				for name, after := range answersOfLeases(list, own, 2, now) {
					var paths []string
					for _, l := range after {
						// A path of one byte needs no memory of its own.
						if len(l.Path) > 1 {
							paths = append(paths, l.Path)
						}
					}
					wantNewTexts(t, what+", "+name, paths, texts)
				}
				expired := slices.DeleteFunc(impl.Expired(list, now), func(p string) bool { return len(p) < 2 })
				wantNewTexts(t, what+", Expired", expired, texts)
			}
		}
	}
}

func TestListsOfLeasesAreNotWrittenInto(t *testing.T) {
	for what, list := range leaseLists() {
		for _, p := range append(ninePaths(), "/b", "/", "") {
			for who := 0; who <= 10; who++ {
				for _, now := range []int{0, 100, 105, 112, -1} {
					roomy := spare(list, leaseOf("/mark", 4, 44))
					room := roomy[:len(roomy)+3]
					before := slices.Clone(room)
					for name, after := range answersOfLeases(roomy, p, who, now) {
						wantLeases(t, what+", "+name+", what was handed in", room, before)
						scribbleLeases(after)
						wantLeases(t, what+", "+name+", behind the answer is written over", room, before)
					}
					paths := impl.Expired(roomy, now)
					clear(paths[:cap(paths)])
					impl.HolderOf(roomy, p)
					impl.LeasesOk(roomy)
					wantLeases(t, what+", what was handed in", room, before)
				}
			}
		}
	}
}

func TestPathsOfLeasesAreNotWrittenInto(t *testing.T) {
	bytes, handed := []byte("/hallbehind"), []byte("/doorbehind")
	list := []impl.Lease{leaseOf(unsafe.String(&bytes[0], 5), 1, 0)}
	seen := unsafe.String(&handed[0], 5)
	kept := answersOfLeases(list, seen, 1, 50)
	expired := impl.Expired(list, 50)
	impl.HolderOf(list, seen)
	impl.LeasesOk(list)
	if string(bytes) != "/hallbehind" || string(handed) != "/doorbehind" {
		t.Errorf("a path, or what is behind it, is written into: %q, %q", bytes, handed)
	}
	clear(bytes)
	clear(handed)
	wantLeases(t, "written over, TakeLease", kept["TakeLease"], []impl.Lease{leaseOf("/door", 1, 50), leaseOf("/hall", 1, 0)})
	wantLeases(t, "written over, RenewLeases", kept["RenewLeases"], []impl.Lease{leaseOf("/hall", 1, 50)})
	wantLeases(t, "written over, DropLease", kept["DropLease"], []impl.Lease{leaseOf("/hall", 1, 0)})
	if !slices.Equal(expired, []string{"/hall"}) {
		t.Errorf("written over, Expired = %q", expired)
	}
}

// Nothing is kept from call to call: an answer that is written over is told anew.
func TestLeasesAreToldAlikeEachTime(t *testing.T) {
	for what, list := range leaseLists() {
		for range 10 {
			for _, p := range append(ninePaths(), "/b", "/") {
				wantAsPlainLeases(t, what, list, p, 2, 105)
				for _, after := range answersOfLeases(list, p, 2, 105) {
					scribbleLeases(after)
				}
			}
		}
	}
}

// Calls that run beside one another neither wait for one another nor see one another's leases.
func TestLeasesAreToldAlikeToAllAtOnce(t *testing.T) {
	lists := leaseLists()
	var callers sync.WaitGroup
	for caller := range 16 {
		callers.Go(func() {
			for range 20 {
				for what, list := range lists {
					for _, p := range ninePaths() {
						got, ok := impl.TakeLease(list, p, 1+caller%9, 103+caller%4)
						want, wantOk := plainTake(list, p, 1+caller%9, 103+caller%4)
						if ok != wantOk || !slices.Equal(got, want) || impl.HolderOf(list, p) != plainHolder(list, p) {
							t.Errorf("%s: at once with others %d takes %s: %s, %v", what, 1+caller%9, p, tellLeases(got), ok)
						}
					}
				}
			}
		})
	}
	callers.Wait()
}

func TestManyLeases(t *testing.T) {
	var list []impl.Lease
	for n := range 3000 {
		list = append(list, leaseOf(fmt.Sprintf("/%04d", n), 1+n%9, n%200))
	}
	for _, p := range []string{"/0000", "/1500", "/2999", "/3000"} {
		for _, who := range []int{0, 1, 9} {
			for _, now := range []int{0, 12, 105, 5000} {
				wantAsPlainLeases(t, "many leases", list, p, who, now)
				wantNotTaken(t, "many leases", list, p, who, now)
			}
		}
	}
}

func TestNoCallOnLeasesPanics(t *testing.T) {
	far := []int{math.MinInt, math.MinInt + 1, math.MinInt + 12, math.MinInt32, -12, -5, -1, 0, 1, 5, 9, 10, 12, impl.MaxNumber, impl.MaxNumber + 1, 1 << 32, math.MaxInt - 5, math.MaxInt - 1, math.MaxInt}
	texts := []string{"", "/", "/far", "/far/", "far", "\xff\xfe"}
	for _, who := range far {
		for _, seen := range far {
			for _, now := range far {
				for _, p := range texts {
					list := []impl.Lease{leaseOf(p, who, seen), leaseOf("/far", 1, 0), {}}
					wantAsPlainLeases(t, "far numbers", list, p, who, now)
				}
				wantAsPlainLeases(t, "far numbers", []impl.Lease{leaseOf("/far", who, seen)}, "/far", who, now)
				wantAsPlainLeases(t, "far numbers", []impl.Lease{leaseOf("/far", who, seen)}, "/far", 2, now)
				wantAsPlainLeases(t, "far numbers", nil, "/far", who, now)
			}
		}
	}
	for _, p := range []string{"\x00", allBytes(), "/" + allBytes(), strings.Repeat("/", 30000), "/" + strings.Repeat("a", 30000)} {
		for _, now := range far {
			list := []impl.Lease{leaseOf("/far", 1, 0), leaseOf(p, 1, 0)}
			wantAsPlainLeases(t, "texts of any bytes", list, p, 1, now)
			wantAsPlainLeases(t, "texts of any bytes", list[:1], p, 1, now)
			wantAsPlainLeases(t, "texts of any bytes", list[1:], p, 2, now)
			wantNotTaken(t, "texts of any bytes", nil, p, 1, now)
		}
	}
}
