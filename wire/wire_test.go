package wire

import (
	"bytes"
	"fmt"
	"math"
	"math/big"
	"math/rand/v2"
	"slices"
	"sync"
	"testing"
)

// sent is a letter, as plain text.
type sent struct {
	to int
	b  string
}

// plain is the chapter's words done a second way: a row of what is under way, and one
// of what is in any box, in the order in which it was delivered.
type plain struct {
	under, boxed []sent
	known        []int // to whom something was ever sent
}

// another is one alike.
func (p *plain) another() *plain {
	return &plain{slices.Clone(p.under), slices.Clone(p.boxed), slices.Clone(p.known)}
}

func (p *plain) send(to int, b string) {
	p.under = append(p.under, sent{to, b})
	if !slices.Contains(p.known, to) {
		p.known = append(p.known, to)
	}
}

// stands is the least number from 0 on that is n modulo how many are under way; -1,
// if nothing is.
func (p *plain) stands(n int) int {
	if len(p.under) == 0 {
		return -1
	}
	return int(new(big.Int).Mod(big.NewInt(int64(n)), big.NewInt(int64(len(p.under)))).Int64())
}

// leave is the letter at a place, taken away from those under way.
func (p *plain) leave(at int) sent {
	var others []sent
	for i, l := range p.under {
		if i != at {
			others = append(others, l)
		}
	}
	l := p.under[at]
	p.under = others
	return l
}

func (p *plain) deliver(n int) bool {
	at := p.stands(n)
	if at >= 0 {
		p.boxed = append(p.boxed, p.leave(at))
	}
	return at >= 0
}

func (p *plain) drop(n int) bool {
	at := p.stands(n)
	if at >= 0 {
		p.leave(at)
	}
	return at >= 0
}

func (p *plain) double(n int) bool {
	at := p.stands(n)
	if at >= 0 {
		p.send(p.under[at].to, p.under[at].b)
	}
	return at >= 0
}

func (p *plain) take(to int) (string, bool) {
	for i, l := range p.boxed {
		if l.to == to {
			p.boxed = slices.Concat(p.boxed[:i], p.boxed[i+1:])
			return l.b, true
		}
	}
	return "", false
}

// holds is what is in a box.
func (p *plain) holds(to int) []string {
	var l []string
	for _, each := range p.boxed {
		if each.to == to {
			l = append(l, each.b)
		}
	}
	return l
}

func (p *plain) clear(to int) {
	p.boxed = slices.DeleteFunc(slices.Clone(p.boxed), func(l sent) bool { return l.to == to })
}

// unlike is what w counts otherwise than p, in boxes that are known to p and in these;
// no text, if there is nothing.
func unlike(w *Wire, p *plain, of ...int) string {
	if got, want := w.Under(), len(p.under); got != want {
		return fmt.Sprintf("Under: %d; want %d", got, want)
	}
	for _, to := range slices.Concat(p.known, of) {
		if got, want := w.Waiting(to), len(p.holds(to)); got != want {
			return fmt.Sprintf("Waiting of %d: %d; want %d", to, got, want)
		}
	}
	return ""
}

// emptied is what is in a box, all of which is taken out; nil bytes beside a false.
func emptied(w *Wire, to int) []string {
	var l []string
	for {
		b, is := w.Take(to)
		if !is {
			if b != nil {
				l = append(l, fmt.Sprintf("R4: %v beside the false", b))
			}
			return l
		}
		l = append(l, string(b))
	}
}

// unlikeDeep is unlike, and what forks of w tell otherwise than p as all boxes are
// emptied, and as all that is under way is delivered, taken each time.
func unlikeDeep(w *Wire, p *plain) string {
	f := w.Fork()
	for _, to := range slices.Concat(p.known, []int{12345}) {
		if got, want := emptied(f, to), p.holds(to); !slices.Equal(got, want) {
			return fmt.Sprintf("the box of %d: %q; want %q", to, got, want)
		}
	}
	for i, l := range p.under {
		if !f.Deliver(0) {
			return fmt.Sprintf("under way, %d: false", i)
		}
		if got := emptied(f, l.to); !slices.Equal(got, []string{l.b}) {
			return fmt.Sprintf("under way, %d: to %d: %q; want %q", i, l.to, got, l.b)
		}
	}
	if is := unlike(f, &plain{known: p.known}); is != "" {
		return "as all is emptied: " + is
	}
	return unlike(w, p)
}

// same asks that nothing is unlike.
func same(t *testing.T, what string, w *Wire, p *plain, of ...int) {
	t.Helper()
	if is := unlike(w, p, of...); is != "" {
		t.Fatalf("P19.1: %s: %s", what, is)
	}
}

// sameDeep asks that nothing is unlikeDeep.
func sameDeep(t *testing.T, what string, w *Wire, p *plain) {
	t.Helper()
	if is := unlikeDeep(w, p); is != "" {
		t.Fatalf("P19.1: %s: %s", what, is)
	}
}

// deed is one thing that may be done, to both.
type deed struct {
	what string
	n    int
	b    string
}

// on does it to both, and tells what each told, as a text.
func (d deed) on(w *Wire, p *plain) (string, string) {
	switch d.what {
	case "send":
		p.send(d.n, d.b)
		w.Send(d.n, []byte(d.b))
	case "deliver":
		return fmt.Sprint(w.Deliver(d.n)), fmt.Sprint(p.deliver(d.n))
	case "drop":
		return fmt.Sprint(w.Drop(d.n)), fmt.Sprint(p.drop(d.n))
	case "double":
		return fmt.Sprint(w.Double(d.n)), fmt.Sprint(p.double(d.n))
	case "take":
		b, is := w.Take(d.n)
		want, also := p.take(d.n)
		return fmt.Sprintf("%q, %t", b, is), fmt.Sprintf("%q, %t", want, also)
	case "clear":
		p.clear(d.n)
		w.Clear(d.n)
	}
	return "", ""
}

// done are a wire and a plain one behind some deeds, of which each tells alike.
func done(t *testing.T, deeds ...deed) (*Wire, *plain) {
	t.Helper()
	w, p := New(), &plain{}
	for i, d := range deeds {
		if got, want := d.on(w, p); got != want {
			t.Fatalf("P19.1: %v, as number %d of %v: %s; want %s", d, i, deeds, got, want)
		}
		same(t, fmt.Sprint(deeds[:i+1]), w, p, 99)
	}
	sameDeep(t, fmt.Sprint(deeds), w, p)
	return w, p
}

// Short words for deeds.
func send(to int, b string) deed      { return deed{what: "send", n: to, b: b} }
func deliver(n int) deed              { return deed{what: "deliver", n: n} }
func drop(n int) deed                 { return deed{what: "drop", n: n} }
func double(n int) deed               { return deed{what: "double", n: n} }
func take(to int) deed                { return deed{what: "take", n: to} }
func empty(to int) deed               { return deed{what: "clear", n: to} }
func with(l []deed, m ...deed) []deed { return append(slices.Clone(l), m...) }

// far are numbers far from all that may be.
func far() []int {
	return []int{math.MinInt, math.MinInt + 1, math.MinInt + 2, math.MinInt + 3, math.MinInt32, -1 << 32, -1000, -9, -8, -7, -2, -1, 1000, math.MaxInt32, 1 << 32, 1<<32 + 1, 1 << 61, 1<<61 + 1, math.MaxInt - 3, math.MaxInt - 2, math.MaxInt - 1, math.MaxInt}
}

// way is what is under way, in its order, as a fork tells it.
func way(w *Wire) []string {
	var l []string
	f := w.Fork()
	for f.Under() > 0 {
		for to := range 10 {
			f.Clear(to)
		}
		f.Deliver(0)
		for to := range 10 {
			for _, b := range emptied(f, to) {
				l = append(l, fmt.Sprint(to, b))
			}
		}
	}
	return l
}

// ask tells a test what is under way, each as its box and its bytes, and what is in
// the boxes from 0 to 9, each as a row of these, if that is not this.
func ask(t *testing.T, what string, w *Wire, under []string, boxes ...string) {
	t.Helper()
	if got := way(w); !slices.Equal(got, under) {
		t.Errorf("P19.1: %s: under way: %q; want %q", what, got, under)
	}
	var got []string
	f := w.Fork()
	for to := range 10 {
		if f.Waiting(to) > 0 {
			got = append(got, fmt.Sprintf("%d%s", to, emptied(f, to)))
		}
	}
	if !slices.Equal(got, boxes) {
		t.Errorf("P19.1: %s: boxes: %q; want %q", what, got, boxes)
	}
}

func TestExample(t *testing.T) {
	w := New()
	w.Send(1, []byte("x"))
	if !w.Double(0) || !w.Deliver(1) {
		t.Error("P19.1: false")
	}
	if b, is := w.Take(1); !is || string(b) != "x" {
		t.Errorf("P19.1: Take: %q, %t", b, is)
	}
	if w.Under() != 1 {
		t.Errorf("P19.1: Under: %d", w.Under())
	}
}

// nothing asks that a wire has nothing, whatever it is asked.
func nothing(t *testing.T, what string, w *Wire) {
	t.Helper()
	for _, n := range append(far(), 0, 1, 2, 3, 4) {
		if w.Deliver(n) || w.Drop(n) || w.Double(n) {
			t.Errorf("P19.1: %s: something of %d is done", what, n)
		}
		if b, is := w.Take(n); is || b != nil {
			t.Errorf("P19.1: %s: Take of %d: %v, %t", what, n, b, is)
		}
		w.Clear(n)
		if w.Waiting(n) != 0 || w.Under() != 0 {
			t.Errorf("P19.1: %s: %d waiting at %d, %d under way", what, w.Waiting(n), n, w.Under())
		}
	}
}

func TestNew(t *testing.T) {
	for what, make := range map[string]func() *Wire{
		"New":            New,
		"its zero value": func() *Wire { return &Wire{} },
		"New().Fork":     func() *Wire { return New().Fork() },
		"a zero's Fork":  func() *Wire { return (&Wire{}).Fork() },
		"all cleared":    func() *Wire { w := New(); w.Send(1, nil); w.Deliver(0); w.Clear(1); return w },
		"all taken":      func() *Wire { w := New(); w.Send(1, nil); w.Deliver(0); w.Take(1); return w },
		"all dropped":    func() *Wire { w := New(); w.Send(1, nil); w.Drop(0); return w },
	} {
		w := make()
		if w == nil || make() == w {
			t.Fatalf("P19.1: %s: none, or the same one", what)
		}
		nothing(t, what, w)
		w.Send(3, []byte("1"))
		ask(t, what, w, []string{"31"})
		if !w.Deliver(0) {
			t.Errorf("P19.1: %s: Deliver: false", what)
		}
		ask(t, what, w, nil, "3[1]")
		w = make()
		w.Send(3, []byte("1"))
		w.Double(0)
		w.Drop(0)
		ask(t, what, w, []string{"31"})
	}
}

func TestNil(t *testing.T) {
	var w *Wire
	for _, n := range append(far(), 0, 1, 2) {
		w.Send(n, []byte("1"))
		w.Send(n, nil)
	}
	nothing(t, "nil", w)
	if w.Fork() != nil || w.Fork().Fork() != nil {
		t.Error("P19.1: Fork of nil: one")
	}
}

func TestSend(t *testing.T) {
	l := append(far(), 0, 1, 2, 3, 4)
	w, p := New(), &plain{}
	for i, to := range l {
		send(to, fmt.Sprint("to ", to)).on(w, p)
		if w.Under() != i+1 {
			t.Errorf("P19.1: Under behind %d: %d", i+1, w.Under())
		}
		for _, other := range l {
			if w.Waiting(other) != 0 {
				t.Errorf("P19.1: Send alone puts something into the box of %d", other)
			}
			if b, is := w.Take(other); is || b != nil {
				t.Errorf("P19.1: Send alone puts %q into the box of %d", b, other)
			}
		}
		sameDeep(t, fmt.Sprint("Send to ", to), w, p)
	}
	for i, to := range l {
		if !w.Deliver(0) || w.Waiting(to) != 1 || w.Under() != len(l)-i-1 {
			t.Errorf("P19.1: Deliver to %d", to)
		}
	}
	for _, to := range l {
		if b, is := w.Take(to); !is || string(b) != fmt.Sprint("to ", to) {
			t.Errorf("P19.1: Take of %d: %q, %t", to, b, is)
		}
	}
	nothing(t, "all taken", w)
}

func TestSendOfNoBytes(t *testing.T) {
	for _, none := range [][]byte{nil, {}, make([]byte, 0, 9)} {
		w := New()
		w.Send(1, none)
		w.Send(1, []byte("1"))
		if w.Under() != 2 || !w.Double(0) || !w.Deliver(0) || !w.Deliver(1) || !w.Deliver(0) || w.Waiting(1) != 3 {
			t.Fatal("R3: no bytes are as no letter")
		}
		for i, want := range []string{"", "", "1"} {
			if b, is := w.Take(1); !is || string(b) != want {
				t.Errorf("R3: Take, %d: %q, %t; want %q", i, b, is, want)
			}
		}
		nothing(t, "all taken", w)
	}
	a, b := New(), New()
	a.Send(1, nil)
	b.Send(1, []byte{})
	a.Deliver(0)
	b.Deliver(0)
	of, _ := a.Take(1)
	other, _ := b.Take(1)
	if (of == nil) != (other == nil) {
		t.Error("R3: nil and empty are told apart")
	}
}

func TestSendTheSameTwice(t *testing.T) {
	w, _ := done(t, send(1, "x"), send(1, "x"))
	ask(t, "the same twice", w, []string{"1x", "1x"})
	w, _ = done(t, send(1, "x"), send(1, "x"), deliver(0))
	ask(t, "one delivered", w, []string{"1x"}, "1[x]")
	w, _ = done(t, send(1, "x"), send(1, "x"), drop(1), deliver(0))
	ask(t, "one dropped, one delivered", w, nil, "1[x]")
	w, _ = done(t, send(1, "x"), send(2, "x"), deliver(1), deliver(0), take(1))
	ask(t, "the same bytes to two", w, nil, "2[x]")
}

// letters are five under way, to three.
func letters() []deed {
	return []deed{send(1, "a"), send(2, "b"), send(1, "c"), send(3, ""), send(2, "e")}
}

// numbers are all that stand for a place, of five, near 0 and far from it.
func numbers() map[int][]int {
	return map[int][]int{
		0: {0, 5, 10, 5000, -5, -10, -5000, math.MaxInt - 2, math.MinInt + 3},
		1: {1, 6, 11, 5001, -4, -9, -4999, math.MaxInt - 1, math.MinInt + 4},
		2: {2, 7, 12, 5002, -3, -8, -4998, math.MaxInt, math.MinInt},
		3: {3, 8, 13, 5003, -2, -7, -4997, math.MaxInt - 4, math.MinInt + 1},
		4: {4, 9, 14, 5004, -1, -6, -4996, math.MaxInt - 3, math.MinInt + 2},
	}
}

// each does one of the deeds of a number to five letters, by each number that there
// is for each place, and asks what comes of it.
func each(t *testing.T, do func(n int) deed, under [][]string, boxes []string) {
	t.Helper()
	for at, l := range numbers() {
		for _, n := range l {
			w, _ := done(t, with(letters(), do(n))...)
			if boxes == nil {
				ask(t, fmt.Sprint(do(n)), w, under[at])
			} else {
				ask(t, fmt.Sprint(do(n)), w, under[at], boxes[at])
			}
		}
	}
}

// one is what a deed of any number does to one letter alone.
func one(t *testing.T, do func(n int) deed, under []string, boxes ...string) {
	t.Helper()
	for _, n := range append(far(), 0, 1, 2, 3) {
		w, _ := done(t, send(1, "x"), do(n))
		ask(t, fmt.Sprint("of one, ", do(n)), w, under, boxes...)
	}
}

// none asks that a deed of any number tells false and changes nothing where nothing
// is under way, while boxes hold some.
func none(t *testing.T, do func(n int) deed) {
	t.Helper()
	w, p := done(t, send(1, "a"), send(2, "b"), send(1, "c"), deliver(0), deliver(0), deliver(0))
	for _, n := range append(far(), 0, 1, 2, 3) {
		if got, want := do(n).on(w, p); got != "false" || want != "false" {
			t.Errorf("P19.1: %v of nothing: %s", do(n), got)
		}
		sameDeep(t, fmt.Sprint(do(n), " of nothing"), w, p)
	}
	ask(t, "of nothing", w, nil, "1[a c]", "2[b]")
}

// without are five letters without the one at each place.
func without() [][]string {
	return [][]string{
		{"2b", "1c", "3", "2e"},
		{"1a", "1c", "3", "2e"},
		{"1a", "2b", "3", "2e"},
		{"1a", "2b", "1c", "2e"},
		{"1a", "2b", "1c", "3"},
	}
}

func TestDeliver(t *testing.T) {
	each(t, deliver, without(), []string{"1[a]", "2[b]", "1[c]", "3[]", "2[e]"})
	one(t, deliver, nil, "1[x]")
	none(t, deliver)
	w, _ := done(t, with(letters(), deliver(4), deliver(2), deliver(1), deliver(0))...)
	ask(t, "behind one another", w, []string{"3"}, "1[c a]", "2[e b]")
	w, _ = done(t, with(letters(), deliver(4), take(2), deliver(1))...)
	ask(t, "and one taken", w, []string{"1a", "1c", "3"}, "2[b]")
	w, _ = done(t, with(letters(), deliver(1), send(2, "f"), deliver(4), deliver(3))...)
	ask(t, "to a box that holds some", w, []string{"1a", "1c", "3"}, "2[b f e]")
}

func TestDrop(t *testing.T) {
	each(t, drop, without(), nil)
	one(t, drop, nil)
	none(t, drop)
	w, _ := done(t, with(letters(), drop(1), drop(3), drop(0))...)
	ask(t, "three", w, []string{"1c", "3"})
	w, _ = done(t, with(letters(), deliver(0), deliver(0), drop(0), drop(0), drop(0))...)
	ask(t, "all others", w, nil, "1[a]", "2[b]")
	w, _ = done(t, with(letters(), drop(4), send(4, "f"))...)
	ask(t, "the last, and one more", w, []string{"1a", "2b", "1c", "3", "4f"})
}

func TestDouble(t *testing.T) {
	all := []string{"1a", "2b", "1c", "3", "2e"}
	var under [][]string
	for _, l := range all {
		under = append(under, append(slices.Clone(all), l))
	}
	each(t, double, under, nil)
	one(t, double, []string{"1x", "1x"})
	none(t, double)
	w, _ := done(t, with(letters(), double(1), double(5), double(0), double(-1))...)
	ask(t, "doubles of doubles", w, []string{"1a", "2b", "1c", "3", "2e", "2b", "2b", "1a", "1a"})
}

// Either of two may be delivered, dropped or doubled again without the other.
func TestDoubleOfOne(t *testing.T) {
	start := with(letters(), double(1))
	w, _ := done(t, with(start, deliver(1))...)
	ask(t, "the first delivered", w, []string{"1a", "1c", "3", "2e", "2b"}, "2[b]")
	w, _ = done(t, with(start, deliver(5))...)
	ask(t, "the other delivered", w, []string{"1a", "2b", "1c", "3", "2e"}, "2[b]")
	w, _ = done(t, with(start, deliver(1), deliver(4))...)
	ask(t, "both delivered", w, []string{"1a", "1c", "3", "2e"}, "2[b b]")
	w, _ = done(t, with(start, deliver(5), take(2), deliver(1))...)
	ask(t, "one taken, one delivered", w, []string{"1a", "1c", "3", "2e"}, "2[b]")
	w, _ = done(t, with(start, drop(1))...)
	ask(t, "the first dropped", w, []string{"1a", "1c", "3", "2e", "2b"})
	w, _ = done(t, with(start, drop(5))...)
	ask(t, "the other dropped", w, []string{"1a", "2b", "1c", "3", "2e"})
	w, _ = done(t, with(start, drop(1), deliver(4))...)
	ask(t, "one dropped, one delivered", w, []string{"1a", "1c", "3", "2e"}, "2[b]")
	w, _ = done(t, with(start, deliver(1), empty(2), deliver(4))...)
	ask(t, "one cleared, one delivered", w, []string{"1a", "1c", "3", "2e"}, "2[b]")
	w, _ = done(t, with(start, double(1))...)
	ask(t, "the first doubled again", w, []string{"1a", "2b", "1c", "3", "2e", "2b", "2b"})
	w, _ = done(t, with(start, drop(1), double(4))...)
	ask(t, "the other doubled again", w, []string{"1a", "1c", "3", "2e", "2b", "2b"})
}

func TestTake(t *testing.T) {
	w, p := done(t, with(letters(), send(1, "f"), deliver(2), deliver(0), deliver(2), deliver(0), deliver(1), deliver(0))...)
	ask(t, "all delivered", w, nil, "1[c a f]", "2[e b]", "3[]")
	for _, next := range []struct {
		to   int
		want string
		left []string
	}{
		{1, "c", []string{"1[a f]", "2[e b]", "3[]"}},
		{2, "e", []string{"1[a f]", "2[b]", "3[]"}},
		{3, "", []string{"1[a f]", "2[b]"}},
		{1, "a", []string{"1[f]", "2[b]"}},
		{1, "f", []string{"2[b]"}},
		{2, "b", nil},
	} {
		if got, want := take(next.to).on(w, p); got != want || got != fmt.Sprintf("%q, true", next.want) {
			t.Errorf("P19.1: Take of %d: %s; want %q", next.to, got, next.want)
		}
		sameDeep(t, fmt.Sprint("Take of ", next.to), w, p)
		ask(t, fmt.Sprint("Take of ", next.to), w, nil, next.left...)
	}
	nothing(t, "all taken", w)
}

func TestTakeOfNothing(t *testing.T) {
	w, p := done(t, with(letters(), deliver(0), deliver(0), deliver(1), take(1), send(4, "f"), deliver(2), empty(4))...)
	ask(t, "some delivered", w, []string{"1c", "2e"}, "2[b]", "3[]")
	for range 3 {
		for _, to := range append(far(), 0, 1, 4, 5) {
			if b, is := w.Take(to); is || b != nil {
				t.Errorf("R4: Take of %d: %v, %t", to, b, is)
			}
			sameDeep(t, fmt.Sprint("Take of nothing of ", to), w, p)
		}
	}
	ask(t, "behind that", w, []string{"1c", "2e"}, "2[b]", "3[]")
	w.Deliver(0)
	ask(t, "what is delivered behind that", w, []string{"2e"}, "1[c]", "2[b]", "3[]")
}

func TestClear(t *testing.T) {
	start := with(letters(), deliver(0), deliver(0), deliver(0), deliver(0))
	for to, left := range map[int][]string{
		1:           {"2[b]", "3[]"},
		2:           {"1[a c]", "3[]"},
		3:           {"1[a c]", "2[b]"},
		4:           {"1[a c]", "2[b]", "3[]"},
		0:           {"1[a c]", "2[b]", "3[]"},
		-1:          {"1[a c]", "2[b]", "3[]"},
		math.MinInt: {"1[a c]", "2[b]", "3[]"},
		math.MaxInt: {"1[a c]", "2[b]", "3[]"},
	} {
		w, _ := done(t, with(start, empty(to))...)
		ask(t, fmt.Sprint("Clear of ", to), w, []string{"2e"}, left...)
		w, _ = done(t, with(start, empty(to), empty(to), take(to))...)
		ask(t, fmt.Sprint("Clear of ", to, ", twice"), w, []string{"2e"}, left...)
		if to > 0 {
			w, _ = done(t, with(start, empty(to), send(to, "f"), send(to, "g"), deliver(2), deliver(1), empty(5), take(to), take(to), take(to))...)
			ask(t, fmt.Sprint("Clear of ", to, ", and two more, taken"), w, []string{"2e"}, left...)
		}
	}
	w, _ := done(t, with(start, empty(1), send(1, "f"), send(1, "g"), deliver(2), deliver(1))...)
	ask(t, "Clear, and two more", w, []string{"2e"}, "1[g f]", "2[b]", "3[]")
	w, _ = done(t, with(start, take(1), take(1), empty(1), send(1, "f"), deliver(1))...)
	ask(t, "Clear of one that was emptied, and one more", w, []string{"2e"}, "1[f]", "2[b]", "3[]")
	w, _ = done(t, with(start, empty(2), deliver(0))...)
	ask(t, "Clear leaves what is under way", w, nil, "1[a c]", "2[e]", "3[]")
}

// Under and Waiting behind every deed, whether it tells true or false.
func TestCounts(t *testing.T) {
	start := with(letters(), deliver(0), deliver(1), send(-4, "f"))
	for _, d := range []struct {
		deed  deed
		under int
		boxes []int // of 0 to 4
	}{
		{send(1, "g"), 5, []int{0, 2, 0, 0, 0}},
		{send(0, ""), 5, []int{0, 2, 0, 0, 0}},
		{deliver(0), 3, []int{0, 2, 1, 0, 0}},
		{deliver(1), 3, []int{0, 2, 0, 1, 0}},
		{deliver(3), 3, []int{0, 2, 0, 0, 0}},
		{drop(0), 3, []int{0, 2, 0, 0, 0}},
		{double(0), 5, []int{0, 2, 0, 0, 0}},
		{take(1), 4, []int{0, 1, 0, 0, 0}},
		{take(2), 4, []int{0, 2, 0, 0, 0}},
		{empty(1), 4, []int{0, 0, 0, 0, 0}},
		{empty(2), 4, []int{0, 2, 0, 0, 0}},
	} {
		w, _ := done(t, with(start, d.deed)...)
		var boxes []int
		for to := range 5 {
			boxes = append(boxes, w.Waiting(to))
		}
		if w.Under() != d.under || !slices.Equal(boxes, d.boxes) {
			t.Errorf("P19.1: %v: %d, %v; want %d, %v", d.deed, w.Under(), boxes, d.under, d.boxes)
		}
	}
}

func TestFork(t *testing.T) {
	start := with(letters(), send(1, "f"), deliver(0), deliver(0), deliver(0), double(1))
	changes := []deed{send(1, "9"), send(7, ""), deliver(0), deliver(1), deliver(2), drop(0), drop(3), double(0), double(2), take(1), take(2), empty(1), empty(2), send(2, "8"), deliver(-1)}
	for _, d := range changes {
		w, p := done(t, start...)
		f, q := w.Fork(), p.another()
		g, r := f.Fork(), q.another()
		if f == w || g == f || g == w {
			t.Fatal("P19.1: Fork: the same one")
		}
		if got, want := d.on(f, q); got != want {
			t.Fatalf("P19.1: %v to a fork: %s; want %s", d, got, want)
		}
		sameDeep(t, fmt.Sprint(d, " to its fork"), w, p)
		sameDeep(t, fmt.Sprint(d, " to a fork"), f, q)
		sameDeep(t, fmt.Sprint(d, " to what it is a fork of"), g, r)
		for _, e := range changes {
			if got, want := e.on(w, p); got != want {
				t.Fatalf("P19.1: %v: %s; want %s", e, got, want)
			}
		}
		sameDeep(t, "much more", w, p)
		sameDeep(t, fmt.Sprint(d, " to a fork, behind much more to the other"), f, q)
		sameDeep(t, "a fork of a fork, untouched", g, r)
		for _, e := range changes {
			if got, want := e.on(g, r); got != want {
				t.Fatalf("P19.1: %v: %s; want %s", e, got, want)
			}
		}
		sameDeep(t, "much more to the last", g, r)
		sameDeep(t, "and the first", w, p)
		sameDeep(t, "and the middle one", f, q)
	}
}

// Behind any number of letters, under way or in a box, both may go on sending,
// delivering and taking.
func TestForkGoesOn(t *testing.T) {
	for ahead := range 20 {
		for _, boxed := range []bool{false, true} {
			w, p := New(), &plain{}
			for i := range ahead {
				send(1, fmt.Sprint("both ", i)).on(w, p)
				if boxed {
					deliver(0).on(w, p)
				}
			}
			f, q := w.Fork(), p.another()
			for i := range 3 {
				send(1, fmt.Sprint("one ", i)).on(w, p)
				send(1, fmt.Sprint("other ", i)).on(f, q)
				sameDeep(t, fmt.Sprint(ahead, " letters, the one"), w, p)
				sameDeep(t, fmt.Sprint(ahead, " letters, its fork"), f, q)
				for _, d := range []deed{deliver(-1), take(1), drop(0)} {
					d.on(w, p)
					sameDeep(t, fmt.Sprint(ahead, " letters, ", d, " to the one"), w, p)
					sameDeep(t, fmt.Sprint(ahead, " letters, ", d, " to the one, its fork"), f, q)
				}
				deliver(0).on(f, q)
				sameDeep(t, fmt.Sprint(ahead, " letters, the one, at last"), w, p)
				sameDeep(t, fmt.Sprint(ahead, " letters, its fork, at last"), f, q)
			}
		}
	}
}

// withRoom are the same bytes with room behind their end that is not zeros.
func withRoom(b string) []byte {
	l := append([]byte(b), bytes.Repeat([]byte{0xee}, 9)...)
	return l[:len(b)]
}

// spoil writes into all of b, the room behind its end too.
func spoil(b []byte) {
	b = b[:cap(b)]
	for i := range b {
		b[i] ^= 0x55
	}
}

func TestHandedIn(t *testing.T) {
	w, p := New(), &plain{}
	all := []string{"", "1", "22", "333", "22", "a letter of a few more bytes"}
	var ins [][]byte
	for _, b := range all {
		in := withRoom(b)
		w.Send(1, in)
		p.send(1, b)
		ins = append(ins, in)
	}
	for _, d := range []deed{double(2), deliver(0), deliver(2), drop(0), take(1), double(1)} {
		d.on(w, p)
	}
	for i, in := range ins {
		room := in[:cap(in)][len(in):]
		if string(in) != all[i] || !bytes.Equal(room[:9], bytes.Repeat([]byte{0xee}, 9)) {
			t.Errorf("R3: what was handed in is changed: %x", in[:cap(in)])
		}
		spoil(in)
		sameDeep(t, "who writes into what was handed in", w, p)
	}
	same1 := withRoom("same")
	w.Send(2, same1)
	copy(same1, "SAME")
	w.Send(2, same1)
	p.send(2, "same")
	p.send(2, "SAME")
	sameDeep(t, "the same memory, sent twice", w, p)
}

func TestHandedOut(t *testing.T) {
	w, p := done(t, send(1, "1"), send(1, "2222222222"), double(0), double(1), double(1), deliver(0), deliver(0), deliver(1), send(1, ""), send(1, "55"), deliver(-1))
	f, q := w.Fork(), p.another()
	for range 5 {
		b, is := w.Take(1)
		want, also := p.take(1)
		if is != also || string(b) != want {
			t.Fatalf("P19.1: Take: %q, %t; want %q, %t", b, is, want, also)
		}
		spoil(b)
		sameDeep(t, "who writes into what was told", w, p)
		sameDeep(t, "who writes into what was told, a fork", f, q)
		deliver(0).on(w, p)
	}
	for range 4 {
		b, _ := f.Take(1)
		q.take(1)
		spoil(append(b, "more"...))
		sameDeep(t, "who writes into what a fork told", f, q)
		sameDeep(t, "who writes into what a fork told, the one", w, p)
	}
}

// What Take told stays as it is, whatever is done to the wire behind that.
func TestHandedOutStays(t *testing.T) {
	w := New()
	w.Send(1, []byte("12"))
	w.Double(0)
	w.Double(0)
	w.Deliver(0)
	w.Deliver(0)
	first, _ := w.Take(1)
	other, _ := w.Take(1)
	if string(first) != "12" || string(other) != "12" {
		t.Fatalf("P19.1: Take: %q, %q", first, other)
	}
	spoil(other)
	if string(first) != "12" {
		t.Errorf("R3: what was told shares its memory with what was told behind it: %q", first)
	}
	w.Send(1, []byte("34"))
	w.Drop(0)
	w.Deliver(0)
	w.Take(1)
	w.Clear(1)
	if string(first) != "12" {
		t.Errorf("R3: what was told is changed: %q", first)
	}
}

func TestAgain(t *testing.T) {
	w, p := done(t, with(letters(), deliver(0), deliver(1), double(0), deliver(0))...)
	for range 10 {
		same(t, "asked again", w, p, 99)
		sameDeep(t, "asked again", w, p)
	}
	var doing sync.WaitGroup
	for range 8 {
		doing.Go(func() {
			for range 200 {
				if is := unlikeDeep(w, p); is != "" {
					t.Errorf("R2: by many at once: %s", is)
				}
				f, q := w.Fork(), p.another()
				for _, d := range []deed{take(1), send(1, "z"), deliver(1), drop(0), double(0), empty(2)} {
					if got, want := d.on(f, q); got != want {
						t.Errorf("R2: a fork, by many at once: %v: %s; want %s", d, got, want)
					}
				}
				if is := unlikeDeep(f, q); is != "" {
					t.Errorf("R2: a fork, by many at once: %s", is)
				}
			}
		})
	}
	doing.Wait()
	sameDeep(t, "behind all that", w, p)
}

func TestTwoWires(t *testing.T) {
	chance := rand.New(rand.NewPCG(19, 2))
	w, p := New(), &plain{}
	other, q := New(), &plain{}
	for range 300 {
		byChance(chance, p).on(w, p)
		same(t, "the other one", other, q)
		byChance(chance, q).on(other, q)
		same(t, "the one", w, p)
	}
	sameDeep(t, "the one", w, p)
	sameDeep(t, "the other one", other, q)
}

// What is in a box was sent, to whom the box belongs.
func TestWhatFollows(t *testing.T) {
	for seed := range uint64(20) {
		chance := rand.New(rand.NewPCG(19, 500+seed))
		w := New()
		ever := map[sent]bool{}
		for i := range 300 {
			to, n := chance.IntN(5)-1, chance.IntN(40)-20
			switch chance.IntN(8) {
			case 0, 1:
				b := fmt.Sprint("letter ", i, " to ", to)
				ever[sent{to, b}] = true
				w.Send(to, []byte(b))
			case 2, 3, 4:
				w.Deliver(n)
			case 5:
				w.Drop(n)
			case 6:
				w.Double(n)
			case 7:
				w = w.Fork()
			}
			for to := -2; to <= 4; to++ {
				for _, b := range emptied(w.Fork(), to) {
					if !ever[sent{to, b}] {
						t.Fatalf("what follows: in the box of %d: %q, which nobody sent to it", to, b)
					}
				}
			}
		}
	}
}

// As many letters as one may send, from one start to the next, and some more.
func TestMany(t *testing.T) {
	const many = 10000
	w := New()
	for i := range many {
		w.Send(i%5, []byte{byte(i), byte(i >> 8)})
	}
	f := w.Fork()
	for i := range many {
		if w.Under() != many-i || !w.Deliver(0) {
			t.Fatalf("P19.1: Deliver of %d", i)
		}
	}
	for i := range many {
		b, is := w.Take(i % 5)
		if !is || !bytes.Equal(b, []byte{byte(i), byte(i >> 8)}) {
			t.Fatalf("P19.1: Take of %d: %x, %t", i, b, is)
		}
	}
	nothing(t, "all taken", w)
	for i := range many {
		if !f.Deliver(-1) || f.Waiting((many-1-i)%5) != i/5+1 {
			t.Fatalf("P19.1: Deliver of %d, turned", i)
		}
	}
	for i := range many {
		b, is := f.Take((many - 1 - i) % 5)
		if n := many - 1 - i; !is || !bytes.Equal(b, []byte{byte(n), byte(n >> 8)}) {
			t.Fatalf("P19.1: Take of %d, turned: %x, %t", i, b, is)
		}
	}
	nothing(t, "all taken, turned", f)
}

// What was taken, dropped or cleared is not kept: a box that holds nothing is none.
func TestNothingIsKept(t *testing.T) {
	w := New()
	for i := range 1000 {
		w.Send(i, []byte("x"))
		w.Deliver(0)
		if i%2 == 0 {
			w.Take(i)
		} else {
			w.Clear(i)
		}
		w.Clear(-i)
		w.Take(-i)
		w.Waiting(-i)
	}
	count := 0
	for range w.all() {
		count++
	}
	if count != 0 || len(w.boxes) != 0 {
		t.Errorf("boxes that hold nothing are kept: %d", count)
	}
}

// Every row of up to five of these deeds, forked at each, and of up to four behind some
// letters that are under way and in boxes.
func TestEveryShortSeries(t *testing.T) {
	deeds := []deed{send(1, "a"), send(2, ""), send(1, "c"), deliver(0), deliver(1), deliver(-1), drop(0), drop(-1), double(0), double(3), take(1), take(2), empty(1)}
	var goOn func(w *Wire, p *plain, left int, first []deed)
	goOn = func(w *Wire, p *plain, left int, first []deed) {
		same(t, fmt.Sprint(first), w, p, 1, 2)
		if left == 0 {
			sameDeep(t, fmt.Sprint(first), w, p)
			return
		}
		for _, d := range deeds {
			f, q := w.Fork(), p.another()
			if got, want := d.on(f, q); got != want {
				t.Fatalf("P19.1: %v, then %v: %s; want %s", first, d, got, want)
			}
			goOn(f, q, left-1, append(first[:len(first):len(first)], d))
		}
	}
	goOn(New(), &plain{}, 5, nil)
	w, p := done(t, send(1, "x"), send(2, "y"), send(1, "z"), deliver(0), deliver(0))
	goOn(w, p, 4, nil)
}

// byChance is any deed, of few boxes and few bytes, with numbers about what may be.
func byChance(chance *rand.Rand, p *plain) deed {
	boxes := []int{0, 1, 2, 3, -1, math.MinInt, math.MaxInt}
	d := deed{n: boxes[chance.IntN(len(boxes))]}
	d.what = []string{"send", "send", "send", "send", "deliver", "deliver", "deliver", "drop", "double", "take", "take", "clear"}[chance.IntN(12)]
	if len(p.under) > 30 && chance.IntN(2) == 0 {
		d.what = "drop"
	}
	switch d.what {
	case "send":
		b := make([]byte, chance.IntN(4))
		for i := range b {
			b[i] = byte(chance.Uint32())
		}
		d.b = string(b)
	case "deliver", "drop", "double":
		d.n = chance.IntN(3*len(p.under)+3) - len(p.under) - 1
		if chance.IntN(5) == 0 {
			d.n = int(chance.Uint64())
		}
	case "clear":
		if chance.IntN(2) == 0 {
			d.what = "take"
		}
	}
	return d
}

func TestSeriesByChance(t *testing.T) {
	var doing sync.WaitGroup
	for seed := range uint64(120) {
		doing.Go(func() {
			if is := series(rand.New(rand.NewPCG(19, seed))); is != "" {
				t.Errorf("P19.1: series %d: %s", seed, is)
			}
		})
	}
	doing.Wait()
}

// series is what is unlike in one, as soon as something is.
func series(chance *rand.Rand) string {
	w, p := New(), &plain{}
	for i := range 400 {
		d := byChance(chance, p)
		if got, want := d.on(w, p); got != want {
			return fmt.Sprintf("deed %d, %v: %s; want %s", i, d, got, want)
		}
		if is := unlikeDeep(w, p); is != "" {
			return fmt.Sprintf("deed %d, %v: %s", i, d, is)
		}
		if i%50 == 49 {
			w = w.Fork()
		}
	}
	return ""
}

// Forks of forks, each of which goes its own way.
func TestForksByChance(t *testing.T) {
	for seed := range uint64(20) {
		chance := rand.New(rand.NewPCG(19, 1000+seed))
		wires, plains := []*Wire{New()}, []*plain{{}}
		for i := range 200 {
			of := chance.IntN(len(wires))
			if i%25 == 24 {
				wires, plains = append(wires, wires[of].Fork()), append(plains, plains[of].another())
			}
			d := byChance(chance, plains[of])
			if got, want := d.on(wires[of], plains[of]); got != want {
				t.Fatalf("P19.1: seed %d, %d, %v: %s; want %s", seed, i, d, got, want)
			}
			for of := range wires {
				same(t, fmt.Sprint("seed ", seed, ", ", i, ", ", d), wires[of], plains[of])
			}
		}
		for of := range wires {
			sameDeep(t, fmt.Sprint("seed ", seed, ", the wire ", of), wires[of], plains[of])
		}
	}
}
