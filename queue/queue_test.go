package queue

import (
	"math"
	"math/rand"
	"slices"
	"testing"
)

// pair is a thing with its key.
type pair struct {
	key   int
	thing string
}

// plain is a queue as a list in which the things stand in their order.
type plain []pair

func (p *plain) put(key int, thing string) {
	at := len(*p)
	for at > 0 && (*p)[at-1].key > key {
		at--
	}
	*p = slices.Insert(*p, at, pair{key, thing})
}

// P4: example 1.
func TestExample(t *testing.T) {
	var q Queue[string]
	q.Put(2, "a")
	q.Put(1, "b")
	q.Put(2, "c")
	for _, want := range []pair{{1, "b"}, {2, "a"}, {2, "c"}} {
		if thing, key, ok := q.Take(); !ok || thing != want.thing || key != want.key {
			t.Error(thing, key, ok)
		}
	}
	checkEmpty(t, &q)
}

// checkEmpty holds that a queue has nothing.
func checkEmpty(t *testing.T, q *Queue[string]) {
	t.Helper()
	if thing, key, ok := q.Take(); thing != "" || key != 0 || ok {
		t.Error("Take:", thing, key, ok)
	}
	if thing, key, ok := q.Peek(); thing != "" || key != 0 || ok {
		t.Error("Peek:", thing, key, ok)
	}
	if q.Len() != 0 {
		t.Error("Len:", q.Len())
	}
	drain := q.Drain()
	if drain == nil {
		t.Fatal("Drain is nil")
	}
	for key, thing := range drain {
		t.Error("Drain:", key, thing)
	}
}

// P4.1, P4.2: of nil, and of a zero value.
func TestNothing(t *testing.T) {
	checkEmpty(t, nil)
	(*Queue[string])(nil).Put(1, "a")
	checkEmpty(t, nil)
	checkEmpty(t, &Queue[string]{})
}

// P4.1: what comes of one key comes in the order in which it was put in, whatever stands between.
func TestStable(t *testing.T) {
	var q Queue[int]
	for i := range 200 {
		q.Put(i%3, i)
		q.Put(5, -1)
		q.Put(-5, -1)
	}
	q.Put(math.MinInt, -2)
	q.Put(math.MaxInt, -3)
	var got []int
	for _, n := range q.Drain() {
		if n != -1 {
			got = append(got, n)
		}
	}
	want := []int{-2}
	for k := range 3 {
		for i := k; i < 200; i += 3 {
			want = append(want, i)
		}
	}
	if want = append(want, -3); !slices.Equal(got, want) {
		t.Error(got)
	}
}

// P4.1: keys of any size are held against each other without going round.
func TestKeys(t *testing.T) {
	keys := []int{0, math.MaxInt, -1, math.MinInt, 1, math.MinInt + 1, math.MaxInt - 1, 1 << 32, -1 << 32}
	var q Queue[int]
	for _, k := range keys {
		q.Put(k, k)
	}
	slices.Sort(keys)
	for _, want := range keys {
		if n, k, ok := q.Take(); n != want || k != want || !ok {
			t.Error(n, k, ok, want)
		}
	}
}

// P4.1: Peek leaves what it tells.
func TestPeek(t *testing.T) {
	var q Queue[string]
	q.Put(4, "a")
	q.Put(3, "b")
	for range 3 {
		if thing, key, ok := q.Peek(); thing != "b" || key != 3 || !ok || q.Len() != 2 {
			t.Error(thing, key, ok, q.Len())
		}
	}
}

// P4.1, P4.3: queues by chance, held against a list.
func TestAgainstList(t *testing.T) {
	r := rand.New(rand.NewSource(1))
	for range 200 {
		var q Queue[string]
		var p plain
		for range r.Intn(300) {
			if r.Intn(5) < 3 {
				key, thing := r.Intn(7)-3, string(rune('a'+r.Intn(26)))
				q.Put(key, thing)
				p.put(key, thing)
				continue
			}
			checkTake(t, &q, &p)
		}
		var got plain
		for key, thing := range q.Drain() {
			got = append(got, pair{key, thing})
		}
		if !slices.Equal(got, p) {
			t.Fatal(got, p)
		}
		checkEmpty(t, &q)
	}
}

// checkTake takes the first thing of both.
func checkTake(t *testing.T, q *Queue[string], p *plain) {
	t.Helper()
	if q.Len() != len(*p) {
		t.Fatal(q.Len(), *p)
	}
	if len(*p) == 0 {
		checkEmpty(t, q)
		return
	}
	seen, seenKey, seenOk := q.Peek()
	thing, key, ok := q.Take()
	if want := (*p)[0]; thing != want.thing || key != want.key || !ok || seen != thing || seenKey != key || !seenOk {
		t.Fatal(thing, key, ok, *p)
	}
	*p = (*p)[1:]
}

// P4.2: Drain takes out what it tells, as far as one likes, and goes on from there.
func TestDrainStops(t *testing.T) {
	var q Queue[string]
	for i, s := range []string{"d", "c", "b", "a"} {
		q.Put(-i, s)
	}
	drain := q.Drain()
	for key, thing := range drain {
		if key != -3 || thing != "a" || q.Len() != 3 {
			t.Error(key, thing, q.Len())
		}
		break
	}
	told := 0
	drain(func(key int, thing string) bool { told++; return false })
	if told != 1 || q.Len() != 2 {
		t.Error(told, q.Len())
	}
	q.Put(-9, "e")
	var got []string
	for _, thing := range drain {
		got = append(got, thing)
		// What is put in meanwhile is told in its place.
		if thing == "e" {
			q.Put(-1, "f")
		}
	}
	if !slices.Equal(got, []string{"e", "c", "f", "d"}) {
		t.Error(got)
	}
	checkEmpty(t, &q)
	q.Put(1, "g")
	for key, thing := range drain {
		if key != 1 || thing != "g" {
			t.Error(key, thing)
		}
	}
	checkEmpty(t, &q)
}

// P4.2: things may be taken by others while a queue is drained.
func TestTakenWhileDrained(t *testing.T) {
	var q Queue[int]
	for i := range 9 {
		q.Put(i, i)
	}
	var got []int
	for _, n := range q.Drain() {
		got = append(got, n)
		q.Take()
	}
	if !slices.Equal(got, []int{0, 2, 4, 6, 8}) {
		t.Error(got)
	}
}

// P4.2: Sorted
func TestSorted(t *testing.T) {
	l := []pair{{3, "a"}, {1, "b"}, {3, "c"}, {math.MinInt, "d"}, {1, "e"}, {math.MaxInt, "f"}}
	was := slices.Clone(l)
	got := Sorted(func(p pair) int { return p.key }, l...)
	if !slices.Equal(got, []pair{{math.MinInt, "d"}, {1, "b"}, {1, "e"}, {3, "a"}, {3, "c"}, {math.MaxInt, "f"}}) {
		t.Error(got)
	}
	if !slices.Equal(Sorted(nil, l...), was) {
		t.Error("by no key:", Sorted(nil, l...))
	}
	if len(Sorted[int](nil)) != 0 || len(Sorted(func(int) int { return 1 })) != 0 {
		t.Error("of nothing")
	}
	if !slices.Equal(l, was) {
		t.Error("changed:", l)
	}
}

// P4.2: what is sorted is new memory, and the list's spare room isn't touched.
func TestSortedIsNew(t *testing.T) {
	room := []int{2, 1, 77, 77}
	for _, key := range []func(int) int{nil, func(n int) int { return n }} {
		got := Sorted(key, room[:2]...)
		got = append(got, 5)
		got[0] = 9
		if !slices.Equal(room, []int{2, 1, 77, 77}) {
			t.Error(room)
		}
	}
}

// P4.2: by chance, held against the library.
func TestSortedAgainstLibrary(t *testing.T) {
	r := rand.New(rand.NewSource(2))
	for range 200 {
		l := make([]int, r.Intn(100))
		for i := range l {
			l[i] = r.Intn(1000)
		}
		want := slices.Clone(l)
		slices.SortStableFunc(want, func(a, b int) int { return a/100 - b/100 })
		if got := Sorted(func(n int) int { return n / 100 }, l...); !slices.Equal(got, want) {
			t.Fatal(got, want)
		}
	}
}

// P6: what is taken out isn't kept.
func TestTakenIsNotKept(t *testing.T) {
	var q Queue[*int]
	for i := range 8 {
		q.Put(i, &i)
	}
	for range q.Drain() {
	}
	for _, one := range q.waiting[:cap(q.waiting)] {
		if one.thing != nil {
			t.Error("kept:", *one.thing)
		}
	}
}

// P4.1: any things may wait, interfaces that are nil too.
func TestAnyThings(t *testing.T) {
	var q Queue[error]
	q.Put(1, nil)
	if thing, key, ok := q.Take(); thing != nil || key != 1 || !ok {
		t.Error(thing, key, ok)
	}
	if thing, key, ok := q.Take(); thing != nil || key != 0 || ok {
		t.Error(thing, key, ok)
	}
}
