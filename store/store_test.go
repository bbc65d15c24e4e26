package store

import (
	"bytes"
	"fmt"
	"iter"
	"maps"
	"math"
	"math/rand/v2"
	"slices"
	"sync"
	"testing"
)

// plain is the chapter's words done a second way: what every name shows, all that
// was ever put, and what every name showed directly ahead of each Put.
type plain struct {
	shows    map[string]string
	versions map[string][]string
	ahead    []map[string]string
}

// newPlain is an empty one.
func newPlain() *plain {
	return &plain{shows: map[string]string{}, versions: map[string][]string{}}
}

// another is one alike.
func (p *plain) another() *plain {
	q := newPlain()
	q.shows = maps.Clone(p.shows)
	for name, all := range p.versions {
		q.versions[name] = slices.Clone(all)
	}
	q.ahead = slices.Clone(p.ahead)
	return q
}

func (p *plain) put(name, b string) {
	p.ahead = append(p.ahead, maps.Clone(p.shows))
	p.shows[name] = b
	p.versions[name] = append(p.versions[name], b)
}

func (p *plain) replay(name string, n int) bool {
	for i, b := range p.versions[name] {
		if i == n {
			p.shows[name] = b
			return true
		}
	}
	return false
}

func (p *plain) swap(a, b string) bool {
	of, is := p.shows[a]
	other, also := p.shows[b]
	if is && also {
		p.shows[a], p.shows[b] = other, of
	}
	return is && also
}

func (p *plain) delete(name string) bool {
	_, is := p.shows[name]
	delete(p.shows, name)
	return is
}

func (p *plain) roll(n int) bool {
	if n == 0 {
		return true
	}
	for i := range p.ahead {
		if len(p.ahead)-i == n {
			p.shows = maps.Clone(p.ahead[i])
			return true
		}
	}
	return false
}

func (p *plain) flip(name string, bit int) bool {
	b := []byte(p.shows[name])
	for i := range b {
		for j := range 8 {
			if 8*i+j == bit {
				b[i] ^= []byte{1, 2, 4, 8, 16, 32, 64, 128}[j]
				p.shows[name] = string(b)
				return true
			}
		}
	}
	return false
}

// names are those that show something, the least one first, by its bytes.
func (p *plain) names() []string {
	var l []string
	for name := range p.shows {
		l = append(l, name)
	}
	slices.SortFunc(l, func(a, b string) int { return bytes.Compare([]byte(a), []byte(b)) })
	return l
}

// unlike is what s answers otherwise than p, of the names that are known to p and of
// these; no text, if there is nothing.
func unlike(s *Store, p *plain, of ...string) string {
	if got, want := slices.Collect(s.Names()), p.names(); !slices.Equal(got, want) {
		return fmt.Sprintf("Names: %q; want %q", got, want)
	}
	if got, want := s.Writes(), len(p.ahead); got != want {
		return fmt.Sprintf("Writes: %d; want %d", got, want)
	}
	for _, name := range append(slices.Collect(maps.Keys(p.versions)), of...) {
		got, is := s.Get(name)
		want, also := p.shows[name]
		if is != also || string(got) != want {
			return fmt.Sprintf("Get of %q: %q, %t; want %q, %t", name, got, is, want, also)
		}
		if !is && got != nil {
			return fmt.Sprintf("Get of %q: %v beside the false", name, got)
		}
		if got, want := s.Versions(name), len(p.versions[name]); got != want {
			return fmt.Sprintf("Versions of %q: %d; want %d", name, got, want)
		}
	}
	return ""
}

// unlikeDeep is unlike, and what s goes back to, in forks of it, that is not what p
// goes back to.
func unlikeDeep(s *Store, p *plain) string {
	try := func(d deed) string {
		f, q := s.Fork(), p.another()
		if got, want := d.on(f, q); got != want {
			return fmt.Sprintf("%v: %t; want %t", d, got, want)
		}
		if is := unlike(f, q); is != "" {
			return fmt.Sprintf("%v: %s", d, is)
		}
		return ""
	}
	found := unlike(s, p)
	for n := -1; n <= len(p.ahead)+1 && found == ""; n++ {
		found = try(roll(n))
	}
	for name, all := range p.versions {
		for n := -1; n <= len(all) && found == ""; n++ {
			found = try(replay(name, n))
		}
	}
	if found != "" {
		return found
	}
	return unlike(s, p)
}

// same asks that nothing is unlike.
func same(t *testing.T, what string, s *Store, p *plain, of ...string) {
	t.Helper()
	if is := unlike(s, p, of...); is != "" {
		t.Fatalf("%s: %s", what, is)
	}
}

// sameDeep asks that nothing is unlikeDeep.
func sameDeep(t *testing.T, what string, s *Store, p *plain) {
	t.Helper()
	if is := unlikeDeep(s, p); is != "" {
		t.Fatalf("%s: %s", what, is)
	}
}

// deed is one thing that may be done, to both.
type deed struct {
	what, a, b string
	n          int
}

// on does it to both, and tells what each told (of a Put nothing).
func (d deed) on(s *Store, p *plain) (bool, bool) {
	switch d.what {
	case "put":
		p.put(d.a, d.b)
		s.Put(d.a, []byte(d.b))
	case "replay":
		return s.Replay(d.a, d.n), p.replay(d.a, d.n)
	case "swap":
		return s.Swap(d.a, d.b), p.swap(d.a, d.b)
	case "delete":
		return s.Delete(d.a), p.delete(d.a)
	case "roll":
		return s.Roll(d.n), p.roll(d.n)
	case "flip":
		return s.Flip(d.a, d.n), p.flip(d.a, d.n)
	}
	return true, true
}

// done are a store and a plain one behind some deeds, of which each tells alike.
func done(t *testing.T, deeds ...deed) (*Store, *plain) {
	t.Helper()
	s, p := New(), newPlain()
	for i, d := range deeds {
		if got, want := d.on(s, p); got != want {
			t.Fatalf("%v, as number %d of %v: %t; want %t", d, i, deeds, got, want)
		}
		same(t, fmt.Sprint(deeds[:i+1]), s, p, "none")
	}
	sameDeep(t, fmt.Sprint(deeds), s, p)
	return s, p
}

// Short words for deeds.
func put(name, b string) deed         { return deed{what: "put", a: name, b: b} }
func replay(name string, n int) deed  { return deed{what: "replay", a: name, n: n} }
func swap(a, b string) deed           { return deed{what: "swap", a: a, b: b} }
func remove(name string) deed         { return deed{what: "delete", a: name} }
func roll(n int) deed                 { return deed{what: "roll", n: n} }
func flip(name string, bit int) deed  { return deed{what: "flip", a: name, n: bit} }
func with(l []deed, m ...deed) []deed { return append(slices.Clone(l), m...) }

// ask tells a test what s shows, written as name=bytes, if it is not this.
func ask(t *testing.T, what string, s *Store, want ...string) {
	t.Helper()
	var got []string
	for name := range s.Names() {
		b, is := s.Get(name)
		if !is {
			t.Errorf("%s: %q is one of Names and shows nothing", what, name)
		}
		got = append(got, name+"="+string(b))
	}
	if !slices.Equal(got, want) {
		t.Errorf("%s: %q; want %q", what, got, want)
	}
}

// far are numbers far from all that may be.
func far() []int {
	return []int{math.MinInt, math.MinInt + 1, math.MinInt32, -1 << 32, -1000, -8, -7, -2, -1, 1000, math.MaxInt32, 1 << 32, 1<<32 + 1, 1 << 61, 1<<61 + 1, math.MaxInt - 7, math.MaxInt - 1, math.MaxInt}
}

func TestExample(t *testing.T) {
	s := New()
	s.Put("a", []byte("1"))
	s.Put("a", []byte("2"))
	if b, is := s.Get("a"); !is || string(b) != "2" {
		t.Errorf("P18.1: Get: %q, %t", b, is)
	}
	if !s.Replay("a", 0) {
		t.Error("P18.2: Replay: false")
	}
	if b, is := s.Get("a"); !is || string(b) != "1" {
		t.Errorf("P18.2: Get behind Replay: %q, %t", b, is)
	}
}

func TestNew(t *testing.T) {
	for what, make := range map[string]func() *Store{
		"New":             New,
		"its zero value":  func() *Store { return &Store{} },
		"New().Fork":      func() *Store { return New().Fork() },
		"a zero's Fork":   func() *Store { return (&Store{}).Fork() },
		"New(), Roll (0)": func() *Store { s := New(); s.Roll(0); return s },
	} {
		s := make()
		if s == nil || make() == s {
			t.Fatalf("P18.1: %s: none, or the same one", what)
		}
		same(t, what, s, newPlain(), "", "a", "none")
		for _, n := range append(far(), 1, 2, 8) {
			if s.Roll(n) || s.Replay("a", n) || s.Flip("a", n) {
				t.Errorf("P18.2: %s: something of %d", what, n)
			}
		}
		if !s.Roll(0) || s.Replay("a", 0) || s.Flip("a", 0) || s.Swap("a", "b") || s.Swap("a", "a") || s.Delete("a") {
			t.Errorf("P18.2: %s: something is done", what)
		}
		same(t, what, s, newPlain(), "", "a", "none")
		s.Put("a", []byte("1"))
		ask(t, what, s, "a=1")
		if s.Writes() != 1 || s.Versions("a") != 1 {
			t.Errorf("P18.1: %s, behind a Put: %d, %d", what, s.Writes(), s.Versions("a"))
		}
	}
}

func TestPut(t *testing.T) {
	s, _ := done(t, put("b", "1"))
	ask(t, "a new name", s, "b=1")
	s, _ = done(t, put("b", "1"), put("a", "22"))
	ask(t, "another one", s, "a=22", "b=1")
	s, _ = done(t, put("b", "1"), put("a", "22"), put("b", "333"))
	ask(t, "one that shows something", s, "a=22", "b=333")
	s, _ = done(t, put("b", "1"), put("a", "22"), remove("b"), put("b", "4"))
	ask(t, "one that was deleted", s, "a=22", "b=4")
	if s.Versions("b") != 2 || s.Writes() != 3 {
		t.Errorf("P18.1: %d, %d", s.Versions("b"), s.Writes())
	}
	s, _ = done(t, put("", "1"), put("", "2"))
	ask(t, "the empty name", s, "=2")
	if s.Versions("") != 2 {
		t.Errorf("P18.1: Versions of the empty name: %d", s.Versions(""))
	}
	s, _ = done(t, put("a", "1"), put("a", "1"))
	ask(t, "the same bytes twice", s, "a=1")
	if s.Versions("a") != 2 || s.Writes() != 2 {
		t.Errorf("P18.1: the same bytes twice: %d, %d", s.Versions("a"), s.Writes())
	}
}

func TestPutOfNoBytes(t *testing.T) {
	for _, none := range [][]byte{nil, {}, make([]byte, 0, 9)} {
		s := New()
		s.Put("a", none)
		s.Put("b", []byte("1"))
		ask(t, "no bytes", s, "a=", "b=1")
		if b, is := s.Get("a"); !is || len(b) != 0 {
			t.Errorf("R3: %v, %t", b, is)
		}
		if s.Versions("a") != 1 || s.Writes() != 2 {
			t.Errorf("R3: %d, %d", s.Versions("a"), s.Writes())
		}
		if !s.Swap("a", "b") || !s.Swap("a", "b") || !s.Delete("a") || s.Delete("a") || !s.Replay("a", 0) {
			t.Error("R3: no bytes are as nothing")
		}
		ask(t, "no bytes, behind all that", s, "a=", "b=1")
		s.Put("b", none)
		ask(t, "no bytes, where there were some", s, "a=", "b=")
		if !s.Roll(1) {
			t.Error("P18.2: Roll")
		}
		ask(t, "ahead of that", s, "a=", "b=1")
	}
	a, b := New(), New()
	a.Put("a", nil)
	b.Put("a", []byte{})
	of, _ := a.Get("a")
	other, _ := b.Get("a")
	if (of == nil) != (other == nil) {
		t.Error("R3: nil and empty are told apart")
	}
}

func TestGetOfNothing(t *testing.T) {
	s, _ := done(t, put("a", "1"), put("b", "2"), remove("b"), put("c", "3"), roll(1))
	for _, name := range []string{"b", "c", "", "A", "a ", "aa", "\x00", "a\x00", "never"} {
		if b, is := s.Get(name); is || b != nil {
			t.Errorf("R4: Get of %q: %v, %t", name, b, is)
		}
	}
	ask(t, "the others", s, "a=1")
}

// many are names by rising bytes: the empty one, those of which one begins another,
// and bytes above 127, whether they are a text or not.
func many() []string {
	return []string{"", "\x00", "\x00\x00", "\x01", " ", "-1", "0", "1", "10", "2", "A", "Z", "a", "a\x00", "aa", "aaa", "ab", "a\x7f", "a\x80", "a\xff", "b", "p1.r0.a3.t2.i0", "z", "\x7f", "\x80", "\xc3", "\xc3\xa4", "é", "€", "\xf0\x9f\x98\x80", "\xff", "\xff\xff"}
}

func TestNames(t *testing.T) {
	l := many()
	chance := rand.New(rand.NewPCG(18, 1))
	for range 50 {
		s, p := New(), newPlain()
		for _, i := range chance.Perm(len(l)) {
			put(l[i], "x").on(s, p)
			same(t, "names by chance", s, p)
		}
		if got := slices.Collect(s.Names()); !slices.Equal(got, l) {
			t.Fatalf("P18.1: Names: %q; want %q", got, l)
		}
		for _, i := range chance.Perm(len(l)) {
			remove(l[i]).on(s, p)
			same(t, "names by chance, some deleted", s, p)
		}
	}
}

func TestNamesEnds(t *testing.T) {
	s := New()
	for _, name := range many() {
		s.Put(name, nil)
	}
	for _, names := range []iter.Seq[string]{s.Names(), s.Names()} {
		for stop := range many() {
			asked := 0
			names(func(name string) bool {
				if name != many()[asked] {
					t.Errorf("P18.1: name %d: %q; want %q", asked, name, many()[asked])
				}
				asked++
				return asked <= stop
			})
			if asked != stop+1 {
				t.Errorf("P18.1: told to stop at %d, it goes on to %d", stop, asked-1)
			}
		}
		for range 3 {
			if got := slices.Collect(names); !slices.Equal(got, many()) {
				t.Errorf("R1: once more: %q", got)
			}
		}
	}
}

func TestNamesInTurns(t *testing.T) {
	s := New()
	for _, name := range many() {
		s.Put(name, nil)
	}
	names := s.Names()
	one, end := iter.Pull(names)
	defer end()
	other, endOther := iter.Pull(names)
	defer endOther()
	first, _ := one()
	if first != "" {
		t.Errorf("R1: the first one: %q", first)
	}
	for i, want := range many() {
		got, is := other()
		ahead, was := one()
		if !is || got != want || was != (i+1 < len(many())) || was && ahead != many()[i+1] {
			t.Errorf("R1: by two at a time, %d: %q, %t, %q, %t", i, got, is, ahead, was)
		}
	}
	if name, is := other(); is {
		t.Errorf("R1: one too many: %q", name)
	}
	for a := range names {
		var l []string
		for b := range names {
			l = append(l, b)
			if b == a {
				break
			}
		}
		if !slices.Equal(l, many()[:len(l)]) || l[len(l)-1] != a {
			t.Errorf("R1: within another: %q", l)
		}
	}
}

// A call's answer hangs on what was done up to it (R2): what is done later does not
// show in the names that were told.
func TestNamesStay(t *testing.T) {
	s, _ := done(t, put("a", "1"), put("c", "2"))
	names := s.Names()
	s.Put("b", nil)
	s.Delete("a")
	if got := slices.Collect(names); !slices.Equal(got, []string{"a", "c"}) {
		t.Errorf("R2: names told ahead: %q", got)
	}
	if got := slices.Collect(s.Names()); !slices.Equal(got, []string{"b", "c"}) {
		t.Errorf("P18.1: names told behind: %q", got)
	}
	var gone []string
	for name := range s.Names() {
		s.Delete(name)
		s.Put(name+"x", nil)
		gone = append(gone, name)
	}
	if !slices.Equal(gone, []string{"b", "c"}) {
		t.Errorf("P18.1: names, changed as they are ranged over: %q", gone)
	}
	ask(t, "behind that", s, "bx=", "cx=")
}

// Only a Put makes a version, and a write.
func TestCounts(t *testing.T) {
	start := []deed{put("a", "1"), put("b", "22"), put("a", "333"), put("c", ""), remove("c")}
	others := []deed{
		replay("a", 0), replay("a", 1), replay("c", 0), replay("a", 2), replay("a", -1), replay("none", 0),
		swap("a", "b"), swap("a", "a"), swap("a", "c"), swap("none", "a"),
		remove("a"), remove("c"), remove("none"),
		roll(0), roll(1), roll(2), roll(3), roll(4), roll(5), roll(-1),
		flip("a", 0), flip("a", 23), flip("a", 24), flip("c", 0), flip("none", 0), flip("b", -1),
	}
	for _, d := range others {
		for _, e := range others {
			s, _ := done(t, with(start, d, e)...)
			if s.Writes() != 4 || s.Versions("a") != 2 || s.Versions("b") != 1 || s.Versions("c") != 1 || s.Versions("none") != 0 {
				t.Errorf("P18.2: behind %v, %v: %d writes; versions: %d, %d, %d, %d", d, e, s.Writes(), s.Versions("a"), s.Versions("b"), s.Versions("c"), s.Versions("none"))
			}
		}
		s, _ := done(t, with(start, d, put("a", "4"))...)
		if s.Writes() != 5 || s.Versions("a") != 3 {
			t.Errorf("P18.1: a Put behind %v: %d, %d", d, s.Writes(), s.Versions("a"))
		}
	}
}

// unchanged asks that something told false, and that nothing was changed by it.
func unchanged(t *testing.T, what string, told bool, s *Store, p *plain) {
	t.Helper()
	if told {
		t.Errorf("P18.2: %s: true", what)
	}
	sameDeep(t, what, s, p)
}

func TestReplay(t *testing.T) {
	start := []deed{put("a", "1"), put("a", "22"), put("b", "x"), put("a", ""), put("a", "4444")}
	for n, want := range []string{"1", "22", "", "4444"} {
		s, _ := done(t, with(start, replay("a", n))...)
		ask(t, "shows another one", s, "a="+want, "b=x")
		s, _ = done(t, with(start, remove("a"), replay("a", n))...)
		ask(t, "was deleted", s, "a="+want, "b=x")
		s, _ = done(t, with(start, roll(5), replay("a", n))...)
		ask(t, "was taken away by a Roll", s, "a="+want)
		s, _ = done(t, with(start, swap("a", "b"), replay("a", n))...)
		ask(t, "was swapped", s, "a="+want, "b=4444")
		s, _ = done(t, with(start, replay("a", n), replay("a", n))...)
		ask(t, "twice", s, "a="+want, "b=x")
	}
	s, p := done(t, with(start, remove("b"))...)
	for _, n := range append(far(), 4, 5) {
		unchanged(t, fmt.Sprint("Replay of a, ", n), s.Replay("a", n), s, p)
		unchanged(t, fmt.Sprint("Replay of b, ", n), s.Replay("b", n), s, p)
		unchanged(t, fmt.Sprint("Replay of none, ", n), s.Replay("none", n), s, p)
	}
	unchanged(t, "Replay of none, 0", s.Replay("none", 0), s, p)
	unchanged(t, "Replay of b, 1", s.Replay("b", 1), s, p)
}

func TestSwap(t *testing.T) {
	start := []deed{put("a", "1"), put("b", "22"), put("c", ""), put("d", "4"), remove("d")}
	s, _ := done(t, with(start, swap("a", "b"))...)
	ask(t, "two", s, "a=22", "b=1", "c=")
	s, _ = done(t, with(start, swap("b", "a"))...)
	ask(t, "two, turned", s, "a=22", "b=1", "c=")
	s, _ = done(t, with(start, swap("a", "b"), swap("b", "a"))...)
	ask(t, "and back", s, "a=1", "b=22", "c=")
	s, _ = done(t, with(start, swap("a", "b"), swap("b", "c"))...)
	ask(t, "three", s, "a=22", "b=", "c=1")
	s, _ = done(t, with(start, swap("a", "c"), put("c", "5"))...)
	ask(t, "and a Put", s, "a=", "b=22", "c=5")
	s, p := done(t, start...)
	for _, name := range []string{"a", "b", "c"} {
		if !s.Swap(name, name) {
			t.Errorf("P18.2: Swap of %q with itself: false", name)
		}
		sameDeep(t, "Swap with itself", s, p)
		for _, none := range []string{"d", "none", ""} {
			unchanged(t, "Swap with nothing", s.Swap(name, none), s, p)
			unchanged(t, "Swap of nothing", s.Swap(none, name), s, p)
		}
	}
	for _, none := range []string{"d", "none", ""} {
		unchanged(t, "Swap of nothing with itself", s.Swap(none, none), s, p)
		unchanged(t, "Swap of nothing with nothing", s.Swap(none, "e"), s, p)
	}
}

func TestDelete(t *testing.T) {
	s, p := done(t, put("a", "1"), put("", "2"), put("b", ""))
	for _, name := range []string{"a", "", "b"} {
		if !s.Delete(name) || !p.delete(name) {
			t.Errorf("P18.2: Delete of %q: false", name)
		}
		sameDeep(t, "Delete", s, p)
		unchanged(t, "Delete, twice", s.Delete(name), s, p)
		unchanged(t, "Delete of what never was", s.Delete("none"), s, p)
	}
	ask(t, "all deleted", s)
	s, p = done(t, put("a", "1"), put("b", "2"), roll(1))
	unchanged(t, "Delete of what a Roll took away", s.Delete("b"), s, p)
}

func TestRoll(t *testing.T) {
	start := []deed{put("a", "1"), put("b", "2"), replay("a", 0), put("a", "3"), replay("a", 0), swap("a", "b"), put("c", "4"), flip("c", 0), remove("b"), put("d", ""), flip("a", 1), roll(2), remove("a")}
	wants := [][]string{
		0: {"b=1"},
		1: {"a=2", "c=5"},
		2: {"a=2", "b=1"},
		3: {"a=1", "b=2"},
		4: {"a=1"},
		5: {},
	}
	for n, want := range wants {
		s, _ := done(t, with(start, roll(n))...)
		ask(t, fmt.Sprint("Roll of ", n), s, want...)
		s, _ = done(t, with(start, roll(n), roll(0))...)
		ask(t, fmt.Sprint("Roll of ", n, ", 0"), s, want...)
		for other, want := range wants[1:] {
			s, _ := done(t, with(start, roll(n), roll(other+1))...)
			ask(t, fmt.Sprint("Roll of ", n, ", ", other+1), s, want...)
			s, _ = done(t, with(start, roll(n), put("e", "9"), roll(other+2))...)
			ask(t, fmt.Sprint("Roll of ", n, ", a Put, Roll of ", other+2), s, want...)
		}
		s, _ = done(t, with(start, roll(n), put("e", "9"), roll(1))...)
		ask(t, fmt.Sprint("Roll of ", n, ", a Put, Roll of 1"), s, want...)
	}
	s, p := done(t, start...)
	for _, n := range append(far(), -1, 6, 7) {
		unchanged(t, fmt.Sprint("Roll of ", n), s.Roll(n), s, p)
	}
	for range 3 {
		if !s.Roll(0) {
			t.Error("P18.2: Roll of 0: false")
		}
		sameDeep(t, "Roll of 0", s, p)
	}
}

// What was done behind a Put goes with it, not with the one ahead of it.
func TestRollBetween(t *testing.T) {
	for _, d := range []struct {
		deed deed
		want []string
	}{
		{replay("a", 0), []string{"a=1", "b=3"}},
		{swap("a", "b"), []string{"a=3", "b=2"}},
		{remove("a"), []string{"b=3"}},
		{flip("a", 0), []string{"a=3", "b=3"}},
		{roll(1), []string{"a=2"}},
		{roll(2), []string{"a=1"}},
		{roll(3), []string{}},
		{roll(0), []string{"a=2", "b=3"}},
	} {
		l := []deed{put("a", "1"), put("a", "2"), put("b", "3"), d.deed, put("a", "4")}
		s, _ := done(t, l...)
		for n, want := range map[int][]string{1: d.want, 2: {"a=2"}, 3: {"a=1"}, 4: {}} {
			f := s.Fork()
			if !f.Roll(n) {
				t.Errorf("P18.2: Roll of %d: false", n)
			}
			ask(t, fmt.Sprint(d.deed, ", Roll of ", n), f, want...)
		}
	}
}

func TestFlip(t *testing.T) {
	all := []byte{0, 255, 0x5a, 1}
	for _, at := range []int{0, 3} {
		for bit := range 8 {
			s := New()
			s.Put("a", all)
			s.Put("b", all)
			want := slices.Clone(all)
			want[at] ^= byte(math.Pow(2, float64(bit)))
			if !s.Flip("a", 8*at+bit) {
				t.Fatalf("P18.2: Flip of %d: false", 8*at+bit)
			}
			if got, is := s.Get("a"); !is || !bytes.Equal(got, want) {
				t.Errorf("P18.2: Flip of %d: %x, %t; want %x", 8*at+bit, got, is, want)
			}
			if got, is := s.Get("b"); !is || !bytes.Equal(got, all) {
				t.Errorf("P18.2: Flip of another one: %x, %t", got, is)
			}
			if !s.Flip("a", 8*at+bit) {
				t.Fatalf("P18.2: Flip of %d, twice: false", 8*at+bit)
			}
			if got, is := s.Get("a"); !is || !bytes.Equal(got, all) {
				t.Errorf("P18.2: Flip of %d, twice: %x, %t", 8*at+bit, got, is)
			}
		}
	}
	s, p := done(t, put("a", "12"), put("b", ""), put("c", "3"), remove("c"))
	for bit := range 16 {
		if got, want := flip("a", bit).on(s, p); !got || !want {
			t.Errorf("P18.2: Flip of %d: %t", bit, got)
		}
		sameDeep(t, "Flip", s, p)
	}
	for _, bit := range append(far(), 16, 17, 23, 24) {
		unchanged(t, fmt.Sprint("Flip of ", bit), s.Flip("a", bit), s, p)
	}
	for _, none := range []string{"b", "c", "none", ""} {
		for _, bit := range append(far(), 0, 1, 7, 8) {
			unchanged(t, fmt.Sprintf("Flip of %q, %d", none, bit), s.Flip(none, bit), s, p)
		}
	}
}

// What a Flip turns is what is shown alone: no version, nothing that a Roll goes
// back to, and nothing that another name shows.
func TestFlipOfOne(t *testing.T) {
	start := []deed{put("a", "1"), put("a", "2"), put("b", "3"), replay("a", 0)}
	s, _ := done(t, with(start, flip("a", 1))...)
	ask(t, "Flip", s, "a=3", "b=3")
	s.Replay("a", 0)
	ask(t, "the version behind it", s, "a=1", "b=3")
	s, _ = done(t, with(start, flip("a", 1), put("c", ""), flip("a", 2), roll(1))...)
	ask(t, "Roll to what was turned", s, "a=3", "b=3")
	s, _ = done(t, with(start, flip("a", 1), put("c", ""), flip("a", 2), roll(2))...)
	ask(t, "Roll to what was not", s, "a=2")
	s, _ = done(t, with(start, swap("a", "b"), flip("a", 2), replay("b", 0))...)
	ask(t, "what was swapped", s, "a=7", "b=3")
	s, _ = done(t, with(start, roll(1), flip("a", 0), roll(1))...)
	ask(t, "what a Roll went back to", s, "a=2")
}

func TestFork(t *testing.T) {
	start := []deed{put("a", "1"), put("b", "2"), put("a", "3"), swap("a", "b"), put("c", "4"), remove("b"), put("d", "")}
	changes := []deed{put("a", "9"), put("e", "9"), put("b", "8"), replay("a", 0), replay("b", 0), swap("a", "c"), remove("a"), roll(1), roll(3), roll(5), flip("a", 0), flip("c", 7)}
	for _, d := range changes {
		s, p := done(t, start...)
		f, q := s.Fork(), p.another()
		g, r := f.Fork(), q.another()
		if f == s || g == f || g == s {
			t.Fatal("P18.1: Fork: the same one")
		}
		if got, want := d.on(f, q); !got || !want {
			t.Fatalf("P18.2: %v to a fork: %t", d, got)
		}
		sameDeep(t, fmt.Sprint(d, " to its fork"), s, p)
		sameDeep(t, fmt.Sprint(d, " to a fork"), f, q)
		sameDeep(t, fmt.Sprint(d, " to what it is a fork of"), g, r)
		for _, e := range changes {
			if got, want := e.on(s, p); got != want {
				t.Fatalf("P18.2: %v: %t; want %t", e, got, want)
			}
		}
		sameDeep(t, "much more", s, p)
		sameDeep(t, fmt.Sprint(d, " to a fork, behind much more to the other"), f, q)
		sameDeep(t, "a fork of a fork, untouched", g, r)
		for _, e := range changes {
			if got, want := e.on(g, r); got != want {
				t.Fatalf("P18.2: %v: %t; want %t", e, got, want)
			}
		}
		sameDeep(t, "much more to the last", g, r)
		sameDeep(t, "and the first", s, p)
		sameDeep(t, "and the middle one", f, q)
	}
}

func TestNil(t *testing.T) {
	var s *Store
	s.Put("a", []byte("1"))
	s.Put("", nil)
	for _, name := range []string{"", "a", "none"} {
		if b, is := s.Get(name); is || b != nil {
			t.Errorf("P18.1: Get of nil: %v, %t", b, is)
		}
		if s.Versions(name) != 0 || s.Writes() != 0 || s.Fork() != nil {
			t.Errorf("P18.1: of nil: %d, %d, %v", s.Versions(name), s.Writes(), s.Fork())
		}
		if s.Swap(name, name) || s.Swap(name, "a") || s.Delete(name) {
			t.Error("P18.2: of nil something is done")
		}
		for _, n := range append(far(), 0, 1, 7, 8) {
			if s.Replay(name, n) || s.Roll(n) || s.Flip(name, n) {
				t.Errorf("P18.2: of nil something of %d is done", n)
			}
		}
	}
	names := s.Names()
	if names == nil {
		t.Fatal("R1: Names of nil: no sequence")
	}
	for range 2 {
		for name := range names {
			t.Errorf("P18.1: Names of nil: %q", name)
		}
	}
}

// Every row of up to four of these deeds, forked at each.
func TestEveryShortSeries(t *testing.T) {
	deeds := []deed{put("a", "1"), put("b", ""), put("", "3"), replay("a", 0), replay("b", 1), swap("a", "b"), swap("", "a"), remove("a"), remove("b"), roll(1), roll(2), roll(3), flip("a", 7), flip("", 0)}
	var goOn func(s *Store, p *plain, left int, first []deed)
	goOn = func(s *Store, p *plain, left int, first []deed) {
		same(t, fmt.Sprint(first), s, p, "", "a", "b")
		if left == 0 {
			return
		}
		for _, d := range deeds {
			f, q := s.Fork(), p.another()
			if got, want := d.on(f, q); got != want {
				t.Fatalf("%v, then %v: %t; want %t", first, d, got, want)
			}
			goOn(f, q, left-1, append(first[:len(first):len(first)], d))
		}
	}
	goOn(New(), newPlain(), 4, nil)
}

// byChance is any deed, of few names and few bytes, with numbers about what may be.
func byChance(chance *rand.Rand, p *plain) deed {
	names := []string{"", "a", "aa", "b", "\xff", "a\x80"}
	d := deed{a: names[chance.IntN(len(names))], b: names[chance.IntN(len(names))]}
	d.what = []string{"put", "put", "put", "replay", "swap", "delete", "roll", "flip", "flip"}[chance.IntN(9)]
	switch d.what {
	case "put":
		b := make([]byte, chance.IntN(4))
		for i := range b {
			b[i] = byte(chance.Uint32())
		}
		d.b = string(b)
	case "replay":
		d.n = chance.IntN(len(p.versions[d.a])+3) - 1
	case "roll":
		d.n = chance.IntN(min(len(p.ahead), 12) + 2)
		if chance.IntN(4) == 0 {
			d.n = chance.IntN(len(p.ahead)+3) - 1
		}
	case "flip":
		d.n = chance.IntN(26) - 1
	}
	return d
}

func TestSeriesByChance(t *testing.T) {
	var doing sync.WaitGroup
	for seed := range uint64(120) {
		doing.Go(func() {
			if is := series(rand.New(rand.NewPCG(18, seed))); is != "" {
				t.Errorf("series %d: %s", seed, is)
			}
		})
	}
	doing.Wait()
}

// series is what is unlike in one, as soon as something is.
func series(chance *rand.Rand) string {
	s, p := New(), newPlain()
	for i := range 400 {
		d := byChance(chance, p)
		if got, want := d.on(s, p); got != want {
			return fmt.Sprintf("deed %d, %v: %t; want %t", i, d, got, want)
		}
		is := unlike(s, p)
		if i%97 == 96 && is == "" {
			is = unlikeDeep(s, p)
		}
		if is != "" {
			return fmt.Sprintf("deed %d, %v: %s", i, d, is)
		}
		if i%50 == 49 {
			s = s.Fork()
		}
	}
	return ""
}

// Forks of forks, each of which goes its own way.
func TestForksByChance(t *testing.T) {
	for seed := range uint64(20) {
		chance := rand.New(rand.NewPCG(18, 1000+seed))
		stores, plains := []*Store{New()}, []*plain{newPlain()}
		for i := range 200 {
			of := chance.IntN(len(stores))
			if i%25 == 24 {
				stores, plains = append(stores, stores[of].Fork()), append(plains, plains[of].another())
			}
			d := byChance(chance, plains[of])
			if got, want := d.on(stores[of], plains[of]); got != want {
				t.Fatalf("P18.1: seed %d, %d, %v: %t; want %t", seed, i, d, got, want)
			}
			same(t, fmt.Sprint("seed ", seed, ", ", i, ", ", d), stores[of], plains[of])
		}
		for of := range stores {
			sameDeep(t, fmt.Sprint("seed ", seed, ", the store ", of), stores[of], plains[of])
		}
	}
}

// Behind any number of Puts, both may go on putting.
func TestForkGoesOn(t *testing.T) {
	for ahead := range 20 {
		s, p := New(), newPlain()
		for i := range ahead {
			put("a", fmt.Sprint("both ", i)).on(s, p)
		}
		f, q := s.Fork(), p.another()
		for i := range 3 {
			put("a", fmt.Sprint("one ", i)).on(s, p)
			put("a", fmt.Sprint("other ", i)).on(f, q)
			sameDeep(t, fmt.Sprint(ahead, " Puts, the one"), s, p)
			sameDeep(t, fmt.Sprint(ahead, " Puts, its fork"), f, q)
		}
	}
}

// withRoom are the same bytes with room behind their end that is not zeros.
func withRoom(b string) []byte {
	l := append([]byte(b), bytes.Repeat([]byte{0xee}, 9)...)
	return l[:len(b)]
}

func TestHandedIn(t *testing.T) {
	s, p := New(), newPlain()
	var all [][]byte
	for _, b := range []string{"", "1", "22", "333", "22"} {
		in := withRoom(b)
		s.Put("a", in)
		p.put("a", b)
		all = append(all, in)
	}
	for bit := range 8 {
		flip("a", bit).on(s, p)
	}
	for i, in := range all {
		room := in[:cap(in)][len(in):]
		if string(in) != p.versions["a"][i] || !bytes.Equal(room[:9], bytes.Repeat([]byte{0xee}, 9)) {
			t.Errorf("R3: what was handed in is changed: %x", in[:cap(in)])
		}
		spoil(in)
		sameDeep(t, "who writes into what was handed in", s, p)
	}
}

// spoil writes into all of b, the room behind its end too.
func spoil(b []byte) {
	b = b[:cap(b)]
	for i := range b {
		b[i] ^= 0x55
	}
}

func TestHandedOut(t *testing.T) {
	s, p := done(t, put("a", "1"), put("a", "2222222222"), put("b", ""), put("c", "33"), replay("a", 0), put("d", "4"), swap("a", "c"), flip("d", 0), put("a", "55"))
	f := s.Fork()
	for _, each := range []*Store{s, f} {
		for _, name := range []string{"a", "b", "c", "d"} {
			b, _ := each.Get(name)
			again, _ := each.Get(name)
			spoil(b)
			if other, _ := each.Get(name); !bytes.Equal(other, again) {
				t.Errorf("R3: who writes into what was told changes %q: %x; want %x", name, other, again)
			}
			spoil(again)
		}
	}
	sameDeep(t, "who writes into what was told", s, p)
	sameDeep(t, "who writes into what a fork told", f, p)
	for n := 1; n <= 6; n++ {
		g, q := s.Fork(), p.another()
		g.Roll(n)
		q.roll(n)
		for name := range g.Names() {
			b, _ := g.Get(name)
			spoil(b)
		}
		sameDeep(t, "who writes into what a Roll told", g, q)
	}
	for n := range 3 {
		s.Replay("a", n)
		p.replay("a", n)
		b, _ := s.Get("a")
		spoil(b)
		sameDeep(t, "who writes into a version that was told", s, p)
	}
}

func TestAgain(t *testing.T) {
	s, p := done(t, put("b", "1"), put("a", "2"), put("b", "3"), remove("a"), put("", "4"))
	for range 10 {
		same(t, "asked again", s, p, "none")
	}
	var doing sync.WaitGroup
	for range 8 {
		doing.Go(func() {
			for range 200 {
				if is := unlike(s, p); is != "" {
					t.Errorf("R2: by many at once: %s", is)
				}
				f, q := s.Fork(), p.another()
				f.Put("z", nil)
				q.put("z", "")
				f.Flip("b", 0)
				q.flip("b", 0)
				f.Roll(2)
				q.roll(2)
				if is := unlike(f, q); is != "" {
					t.Errorf("R2: a fork, by many at once: %s", is)
				}
			}
		})
	}
	doing.Wait()
	sameDeep(t, "behind all that", s, p)
}

func TestTwoStores(t *testing.T) {
	chance := rand.New(rand.NewPCG(18, 2))
	s, p := New(), newPlain()
	other, q := New(), newPlain()
	for range 300 {
		byChance(chance, p).on(s, p)
		same(t, "the other one", other, q)
		byChance(chance, q).on(other, q)
		same(t, "the one", s, p)
	}
	sameDeep(t, "the one", s, p)
	sameDeep(t, "the other one", other, q)
}

// A name that is put time and again, and many names beside it.
func TestMany(t *testing.T) {
	s := New()
	for i := range 3000 {
		s.Put("a", []byte{byte(i), byte(i >> 8)})
		s.Put(fmt.Sprintf("n%04d", i), nil)
	}
	if s.Writes() != 6000 || s.Versions("a") != 3000 || len(slices.Collect(s.Names())) != 3001 {
		t.Errorf("P18.1: %d, %d, %d", s.Writes(), s.Versions("a"), len(slices.Collect(s.Names())))
	}
	for i := range 3000 {
		n := i
		if !s.Replay("a", n) {
			t.Fatalf("P18.2: Replay of %d", n)
		}
		if b, _ := s.Get("a"); len(b) != 2 || int(b[0])+256*int(b[1]) != n {
			t.Fatalf("P18.2: Replay of %d: %x", n, b)
		}
	}
	for _, n := range []int{1, 2, 3, 4, 5999, 6000, 2999, 3000} {
		if !s.Roll(n) {
			t.Fatalf("P18.2: Roll of %d", n)
		}
		left := 6000 - n // Puts ahead: the even ones of "a", the odd ones of others
		count := left / 2
		if left > 0 {
			count++
		}
		if got := slices.Collect(s.Names()); len(got) != count {
			t.Errorf("P18.2: Roll of %d: %d names; want %d", n, len(got), count)
		}
		want := (left+1)/2 - 1
		if b, is := s.Get("a"); is != (left > 0) || is && int(b[0])+256*int(b[1]) != want {
			t.Errorf("P18.2: Roll of %d: %x, %t; want %d", n, b, is, want)
		}
	}
}
