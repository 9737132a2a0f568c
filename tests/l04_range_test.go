package tests

import (
	"fmt"
	"math"
	"regexp"
	"slices"
	"strconv"
	"strings"
	"testing"

	"loop.example/g03013/impl"
)

func span(lo int, hi int) impl.Range {
	return impl.Range{Lo: lo, Hi: hi}
}

func one(n int) impl.Range {
	return impl.Range{Lo: n, Hi: n}
}

// spans are count valid ranges, apart from their number: the even numbers from 0 on.
func spans(count int) []impl.Range {
	l := []impl.Range{}
	for i := range count {
		l = append(l, one(2*i))
	}
	return l
}

// shownRanges is what a failure tells of ranges, of which there may be thousands.
func shownRanges(l []impl.Range) string {
	return fmt.Sprintf("%.300s", fmt.Sprint(l))
}

// withSpare is a copy of l with one more range in the memory behind it, which
// no function may touch.
func withSpare(l []impl.Range) []impl.Range {
	return append(slices.Clone(l), span(77, 78))[:len(l)]
}

func wantUntouched(t *testing.T, name string, l []impl.Range, before []impl.Range) {
	t.Helper()
	if !slices.Equal(l, before) {
		t.Errorf("%s changed its argument from %s to %s", name, shownRanges(before), shownRanges(l))
	}
	if behind := l[:len(l)+1][len(l)]; behind != span(77, 78) {
		t.Errorf("%s changed the memory behind its argument %s to %v", name, shownRanges(before), behind)
	}
}

func wantValid(t *testing.T, l []impl.Range, want bool) {
	t.Helper()
	given := withSpare(l)
	if got := impl.AreRanges(given); got != want {
		t.Errorf("AreRanges(%s) = %t", shownRanges(l), got)
	}
	wantUntouched(t, "AreRanges", given, l)
}

func wantIn(t *testing.T, l []impl.Range, n int, want bool) {
	t.Helper()
	given := withSpare(l)
	if got := impl.InRanges(given, n); got != want {
		t.Errorf("InRanges(%s, %d) = %t", shownRanges(l), n, got)
	}
	wantUntouched(t, "InRanges", given, l)
}

func wantNormal(t *testing.T, l []impl.Range, want ...impl.Range) {
	t.Helper()
	given := withSpare(l)
	if got := impl.NormalRanges(given); !slices.Equal(got, want) {
		t.Errorf("NormalRanges(%s) = %s, want %s", shownRanges(l), shownRanges(got), shownRanges(want))
	}
	wantUntouched(t, "NormalRanges", given, l)
}

func wantMeetInOrder(t *testing.T, a []impl.Range, b []impl.Range, want []impl.Range) {
	t.Helper()
	givenA, givenB := withSpare(a), withSpare(b)
	if got := impl.MeetRanges(givenA, givenB); !slices.Equal(got, want) {
		t.Errorf("MeetRanges(%s, %s) = %s, want %s", shownRanges(a), shownRanges(b), shownRanges(got), shownRanges(want))
	}
	wantUntouched(t, "MeetRanges", givenA, a)
	wantUntouched(t, "MeetRanges", givenB, b)
}

// wantMeet asks for both orders: ranges meet each other.
func wantMeet(t *testing.T, a []impl.Range, b []impl.Range, want ...impl.Range) {
	t.Helper()
	wantMeetInOrder(t, a, b, want)
	wantMeetInOrder(t, b, a, want)
}

func wantWritten(t *testing.T, l []impl.Range, want string) {
	t.Helper()
	given := withSpare(l)
	if got := impl.FormatRanges(given); got != want {
		t.Errorf("FormatRanges(%s) = %.300q, want %.300q", shownRanges(l), got, want)
	}
	wantUntouched(t, "FormatRanges", given, l)
}

func wantRanges(t *testing.T, s string, want ...impl.Range) {
	t.Helper()
	if got, ok := impl.ParseRanges(s); !ok || !slices.Equal(got, want) {
		t.Errorf("ParseRanges(%.60q) = %s, %t, want %s, true", s, shownRanges(got), ok, shownRanges(want))
	}
}

func wantNoRanges(t *testing.T, s string) {
	t.Helper()
	if got, ok := impl.ParseRanges(s); ok || len(got) != 0 {
		t.Errorf("ParseRanges(%.60q) = %s, %t, want an empty list, false", s, shownRanges(got), ok)
	}
}

// runs are the normal ranges of the numbers from lo to hi for which in holds,
// found number by number.
func runs(lo int, hi int, in func(int) bool) []impl.Range {
	found := []impl.Range{}
	for n := lo; n <= hi; n++ {
		switch last := len(found) - 1; {
		case !in(n):
		case last >= 0 && found[last].Hi == n-1:
			found[last].Hi = n
		default:
			found = append(found, one(n))
		}
	}
	return found
}

// holds reports whether a range of l has the number; unlike InRanges it says
// of an empty list that none has.
func holds(l []impl.Range, n int) bool {
	return slices.ContainsFunc(l, func(r impl.Range) bool { return r.Lo <= n && n <= r.Hi })
}

// smallLists are all lists of at most size ranges with bounds from 0 to most,
// also of those with Lo above Hi.
func smallLists(most int, size int) [][]impl.Range {
	all := [][]impl.Range{{}}
	last := all
	for range size {
		longer := [][]impl.Range{}
		for _, l := range last {
			for lo := range most + 1 {
				for hi := range most + 1 {
					longer = append(longer, append(slices.Clone(l), span(lo, hi)))
				}
			}
		}
		all = append(all, longer...)
		last = longer
	}
	return all
}

// mixedLists are lists of up to 20 ranges of numbers from 0 to 99, in no order,
// some with Lo above Hi; they are the same in each run.
func mixedLists(count int) [][]impl.Range {
	state := 1
	next := func(below int) int {
		state = state * 75 % 65537
		return state % below
	}
	lists := [][]impl.Range{}
	for range count {
		l := []impl.Range{}
		for range next(21) {
			lo := next(100)
			l = append(l, span(lo, impl.Min(99, lo+next(12)-2)))
		}
		lists = append(lists, l)
	}
	return lists
}

func TestMaxRanges(t *testing.T) {
	if impl.MaxRanges != 6 {
		t.Error(impl.MaxRanges)
	}
}

func TestValidRanges(t *testing.T) {
	if !impl.AreRanges(nil) {
		t.Error("AreRanges(nil) = false")
	}
	for _, l := range [][]impl.Range{
		{},
		{one(0)},
		{one(-7)},
		{span(1, 2)},
		{span(-3, 4), one(6)},
		{span(1, 4), span(6, 9)},
		{one(4), one(6)},
		{span(-9, -4), span(-2, -1), span(1, 5)},
		{one(-1), one(1)},
		{one(impl.MaxNumber)},
		{one(-impl.MaxNumber)},
		{span(-impl.MaxNumber, impl.MaxNumber)},
		{span(-impl.MaxNumber, -1), span(1, impl.MaxNumber)},
		{one(-impl.MaxNumber), one(impl.MaxNumber)},
		{span(0, impl.MaxNumber-2), one(impl.MaxNumber)},
		spans(impl.MaxRanges - 1),
		spans(impl.MaxRanges),
	} {
		wantValid(t, l, true)
	}
}

func TestRangesThatAreNotValid(t *testing.T) {
	for _, l := range [][]impl.Range{
		spans(impl.MaxRanges + 1), spans(impl.MaxRanges + 2), spans(5000),
		{span(1, 0)}, {span(0, -1)}, {span(9, -9)}, {span(2, 1), one(9)}, {one(0), span(3, 2)}, {span(impl.MaxNumber, -impl.MaxNumber)},
		{span(9, 8), one(10)}, {one(0), span(5, 4), one(9)},
		{one(impl.MaxNumber + 1)}, {span(0, impl.MaxNumber+1)}, {span(-impl.MaxNumber-1, 0)}, {one(-impl.MaxNumber - 1)},
		{one(0), span(5, impl.MaxNumber+1)}, {span(-impl.MaxNumber-1, 0), one(5)}, {span(-impl.MaxNumber-1, impl.MaxNumber+1)},
		{one(math.MaxInt)}, {one(math.MinInt)}, {span(math.MinInt, math.MaxInt)}, {span(math.MaxInt, math.MinInt)},
		{span(0, math.MaxInt), one(5)}, {span(0, math.MaxInt), one(math.MinInt + 3)}, {span(math.MinInt, 0), one(5)},
		{one(6), one(4)}, {span(6, 9), span(1, 4)}, {one(1), one(5), one(3)}, {one(5), one(1), one(9)}, {one(0), one(-2)},
		{span(1, 5), span(3, 9)}, {span(1, 5), span(5, 9)}, {span(1, 9), span(3, 4)}, {span(3, 4), span(1, 9)}, {span(1, 9), one(9)},
		{one(1), one(1)}, {span(2, 5), span(2, 5)}, {one(0), span(4, 5), span(4, 5)},
		{span(1, 4), span(5, 9)}, {one(4), one(5)}, {one(-1), one(0)}, {one(-2), one(-1)}, {one(0), span(2, 4), one(5)},
		{span(-impl.MaxNumber, -1), span(0, impl.MaxNumber)}, {span(0, impl.MaxNumber-1), one(impl.MaxNumber)},
	} {
		wantValid(t, l, false)
	}
}

func TestHowFarApartValidRangesAre(t *testing.T) {
	for gap := -5; gap <= 5; gap++ {
		for _, end := range []int{-5, -2, -1, 0, 1, 4, 1000} {
			begin := end + gap
			wantValid(t, []impl.Range{span(end-1, end), span(begin, begin+3)}, gap >= 2)
			wantValid(t, []impl.Range{one(-99), span(end-1, end), span(begin, begin+3)}, gap >= 2)
			wantValid(t, []impl.Range{span(end-1, end), span(begin, begin+3), one(2000)}, gap >= 2)
		}
	}
}

// Valid ranges are the runs of their own numbers, one for one.
func TestValidRangesAreTheRunsOfTheirNumbers(t *testing.T) {
	for _, l := range smallLists(5, 3) {
		wantValid(t, l, slices.Equal(l, runs(0, 5, func(n int) bool { return holds(l, n) })))
	}
}

func TestNumbersInRanges(t *testing.T) {
	two := []impl.Range{span(-3, 4), span(6, 8)}
	for n, want := range map[int]bool{
		-4: false, -3: true, -2: true, 0: true, 3: true, 4: true, 5: false, 6: true, 7: true, 8: true, 9: false,
		math.MinInt: false, math.MaxInt: false, impl.MaxNumber: false, -impl.MaxNumber: false,
	} {
		wantIn(t, two, n, want)
	}
	single := []impl.Range{one(7)}
	wantIn(t, single, 6, false)
	wantIn(t, single, 7, true)
	wantIn(t, single, 8, false)
	wantIn(t, single, -7, false)
	all := []impl.Range{span(-impl.MaxNumber, impl.MaxNumber)}
	wantIn(t, all, -impl.MaxNumber-1, false)
	wantIn(t, all, -impl.MaxNumber, true)
	wantIn(t, all, impl.MaxNumber, true)
	wantIn(t, all, impl.MaxNumber+1, false)
	for i := range 2 * impl.MaxRanges {
		wantIn(t, spans(impl.MaxRanges), i, i%2 == 0 && i <= 2*(impl.MaxRanges-1))
	}
}

func TestEveryNumberIsInNoRanges(t *testing.T) {
	for _, n := range []int{0, 1, -1, 99, impl.MaxNumber, -impl.MaxNumber, impl.MaxNumber + 1, math.MaxInt, math.MinInt} {
		wantIn(t, []impl.Range{}, n, true)
		if !impl.InRanges(nil, n) {
			t.Errorf("InRanges(nil, %d) = false", n)
		}
	}
}

func TestNumbersInRangesThatAreNotValid(t *testing.T) {
	for _, l := range smallLists(3, 3)[1:] {
		for n := -1; n <= 4; n++ {
			wantIn(t, l, n, holds(l, n))
		}
	}
	wantIn(t, []impl.Range{span(9, 8)}, 8, false)
	wantIn(t, []impl.Range{span(9, 8)}, 9, false)
	wantIn(t, spans(5000), 9998, true)
	wantIn(t, spans(5000), 9997, false)
	for _, n := range []int{math.MinInt, -impl.MaxNumber - 1, 0, math.MaxInt} {
		wantIn(t, []impl.Range{span(math.MinInt, math.MaxInt)}, n, true)
		wantIn(t, []impl.Range{span(math.MaxInt, math.MinInt)}, n, false)
	}
}

func TestNormalRanges(t *testing.T) {
	if l := impl.NormalRanges(nil); len(l) != 0 {
		t.Errorf("NormalRanges(nil) = %v", l)
	}
	wantNormal(t, []impl.Range{})
	wantNormal(t, []impl.Range{one(5)}, one(5))
	wantNormal(t, []impl.Range{span(-3, 4), one(6)}, span(-3, 4), one(6))
	wantNormal(t, []impl.Range{one(6), span(-3, 4)}, span(-3, 4), one(6))
	wantNormal(t, []impl.Range{one(9), one(1), one(5), one(-3), one(7)}, one(-3), one(1), one(5), one(7), one(9))
	// These touch.
	wantNormal(t, []impl.Range{span(1, 4), span(5, 9)}, span(1, 9))
	wantNormal(t, []impl.Range{span(5, 9), span(1, 4)}, span(1, 9))
	wantNormal(t, []impl.Range{one(3), one(1), one(2)}, span(1, 3))
	wantNormal(t, []impl.Range{one(-1), one(0)}, span(-1, 0))
	wantNormal(t, []impl.Range{span(1, 4), span(6, 9)}, span(1, 4), span(6, 9))
	wantNormal(t, []impl.Range{span(6, 9), span(1, 4), one(5)}, span(1, 9))
	// These overlap.
	wantNormal(t, []impl.Range{span(1, 5), span(3, 9)}, span(1, 9))
	wantNormal(t, []impl.Range{span(3, 9), span(1, 5)}, span(1, 9))
	wantNormal(t, []impl.Range{span(1, 5), span(5, 9)}, span(1, 9))
	wantNormal(t, []impl.Range{span(1, 3), span(2, 5), span(4, 8), span(10, 11)}, span(1, 8), span(10, 11))
	// These lie within one another.
	wantNormal(t, []impl.Range{span(1, 9), span(3, 4)}, span(1, 9))
	wantNormal(t, []impl.Range{span(3, 4), span(1, 9)}, span(1, 9))
	wantNormal(t, []impl.Range{span(1, 9), span(2, 3), span(5, 6), one(11)}, span(1, 9), one(11))
	wantNormal(t, []impl.Range{span(1, 9), span(2, 3), span(10, 12)}, span(1, 12))
	wantNormal(t, []impl.Range{span(1, 9), span(1, 4)}, span(1, 9))
	wantNormal(t, []impl.Range{span(1, 4), span(1, 9)}, span(1, 9))
	wantNormal(t, []impl.Range{span(1, 9), span(5, 9)}, span(1, 9))
	// These are there twice.
	wantNormal(t, []impl.Range{one(3), one(3)}, one(3))
	wantNormal(t, []impl.Range{span(1, 4), one(9), span(1, 4)}, span(1, 4), one(9))
	wantNormal(t, []impl.Range{span(6, 6), span(2, 4), span(6, 6), span(2, 4)}, span(2, 4), one(6))
}

func TestRangesThatNormalRangesLeavesOut(t *testing.T) {
	wantNormal(t, []impl.Range{span(9, 8)})
	wantNormal(t, []impl.Range{span(9, 8), span(0, -1), span(math.MaxInt, math.MinInt)})
	wantNormal(t, []impl.Range{span(5, 6), span(1, 2), span(3, 4), span(9, 8)}, span(1, 6))
	wantNormal(t, []impl.Range{span(9, 8), one(7), one(10)}, one(7), one(10))
	wantNormal(t, []impl.Range{one(1), span(5, 2), one(6)}, one(1), one(6))
	beyond := []impl.Range{
		one(impl.MaxNumber + 1), span(0, impl.MaxNumber+1), span(impl.MaxNumber, impl.MaxNumber+1),
		one(-impl.MaxNumber - 1), span(-impl.MaxNumber-1, 0), span(-impl.MaxNumber-1, -impl.MaxNumber),
		span(-impl.MaxNumber-1, impl.MaxNumber), span(-impl.MaxNumber, impl.MaxNumber+1),
		one(math.MaxInt), one(math.MinInt), span(0, math.MaxInt), span(math.MinInt, 0), span(math.MinInt, math.MaxInt),
	}
	wantNormal(t, beyond)
	for _, r := range beyond {
		wantNormal(t, []impl.Range{r})
		wantNormal(t, []impl.Range{r, one(5)}, one(5))
		wantNormal(t, []impl.Range{one(5), r, span(1, 2)}, span(1, 2), one(5))
	}
}

func TestNormalRangesAtTheBounds(t *testing.T) {
	wantNormal(t, []impl.Range{one(impl.MaxNumber)}, one(impl.MaxNumber))
	wantNormal(t, []impl.Range{one(-impl.MaxNumber)}, one(-impl.MaxNumber))
	wantNormal(t, []impl.Range{span(-impl.MaxNumber, impl.MaxNumber)}, span(-impl.MaxNumber, impl.MaxNumber))
	wantNormal(t, []impl.Range{one(impl.MaxNumber), one(-impl.MaxNumber)}, one(-impl.MaxNumber), one(impl.MaxNumber))
	wantNormal(t, []impl.Range{span(0, impl.MaxNumber), span(-impl.MaxNumber, -1)}, span(-impl.MaxNumber, impl.MaxNumber))
	wantNormal(t, []impl.Range{span(1, impl.MaxNumber), span(-impl.MaxNumber, -1)}, span(-impl.MaxNumber, -1), span(1, impl.MaxNumber))
	wantNormal(t, []impl.Range{one(impl.MaxNumber), one(impl.MaxNumber), one(impl.MaxNumber - 1)}, span(impl.MaxNumber-1, impl.MaxNumber))
}

func TestMoreThanMaxRangesAreLeft(t *testing.T) {
	for _, count := range []int{impl.MaxRanges, impl.MaxRanges + 1, 20, 3000} {
		want := spans(count)
		rising := append(slices.Clone(want), span(1, 0))
		falling := slices.Clone(rising)
		slices.Reverse(falling)
		wantNormal(t, want, want...)
		wantNormal(t, rising, want...)
		wantNormal(t, falling, want...)
		wantNormal(t, append(rising, falling...), want...)
		wantNormal(t, append(rising, span(-5, 2*count)), span(-5, 2*count))
	}
}

// This is promise 4: normal ranges have the same numbers, and are as few as possible.
func TestNormalRangesAreTheRunsOfTheSameNumbers(t *testing.T) {
	for _, l := range append(smallLists(4, 3), smallLists(2, 4)...) {
		wantNormal(t, l, runs(0, 4, func(n int) bool { return holds(l, n) })...)
	}
	for _, l := range mixedLists(3000) {
		want := runs(0, 99, func(n int) bool { return holds(l, n) })
		wantNormal(t, l, want...)
		wantNormal(t, want, want...)
		if len(want) > 0 {
			for n := -1; n <= 100; n++ {
				wantIn(t, want, n, impl.InRanges(l, n))
			}
		}
	}
}

func TestRangesThatMeetNone(t *testing.T) {
	for _, none := range [][]impl.Range{nil, {}} {
		if l := impl.MeetRanges(none, nil); len(l) != 0 {
			t.Errorf("MeetRanges(%v, nil) = %v", none, l)
		}
		for _, l := range append(mixedLists(300), smallLists(3, 2)...) {
			want := impl.NormalRanges(l)
			if got := impl.MeetRanges(none, l); !slices.Equal(got, want) {
				t.Errorf("MeetRanges(%v, %v) = %v, want %v", none, l, got, want)
			}
			if got := impl.MeetRanges(l, none); !slices.Equal(got, want) {
				t.Errorf("MeetRanges(%v, %v) = %v, want %v", l, none, got, want)
			}
		}
	}
	wantMeet(t, nil, []impl.Range{one(6), span(-3, 4)}, span(-3, 4), one(6))
	wantMeet(t, nil, []impl.Range{span(1, 4), span(5, 9)}, span(1, 9))
	wantMeet(t, nil, []impl.Range{span(9, 8), one(impl.MaxNumber + 1), one(3)}, one(3))
	wantMeet(t, nil, []impl.Range{span(9, 8)})
	wantMeet(t, nil, spans(20), spans(20)...)
}

func TestRangesThatMeet(t *testing.T) {
	wantMeet(t, []impl.Range{span(1, 9)}, []impl.Range{span(5, 12)}, span(5, 9))
	wantMeet(t, []impl.Range{span(1, 9)}, []impl.Range{span(3, 4)}, span(3, 4))
	wantMeet(t, []impl.Range{span(1, 9)}, []impl.Range{span(1, 9)}, span(1, 9))
	wantMeet(t, []impl.Range{span(-3, 4), one(6)}, []impl.Range{span(0, 6)}, span(0, 4), one(6))
	// There is no number in common.
	wantMeet(t, []impl.Range{span(-3, 4), one(6)}, []impl.Range{span(8, 9)})
	wantMeet(t, []impl.Range{span(1, 4)}, []impl.Range{span(5, 9)})
	wantMeet(t, []impl.Range{one(1), one(5)}, []impl.Range{one(3), span(7, 9)})
	wantMeet(t, []impl.Range{one(0)}, []impl.Range{one(1)})
	// There is one.
	wantMeet(t, []impl.Range{span(1, 5)}, []impl.Range{span(5, 9)}, one(5))
	wantMeet(t, []impl.Range{one(5)}, []impl.Range{span(1, 9)}, one(5))
	wantMeet(t, []impl.Range{span(1, 3), span(5, 7)}, []impl.Range{span(3, 5)}, one(3), one(5))
	wantMeet(t, []impl.Range{one(-impl.MaxNumber), one(impl.MaxNumber)}, []impl.Range{span(0, impl.MaxNumber)}, one(impl.MaxNumber))
	// Several meet one.
	wantMeet(t, []impl.Range{span(1, 2), span(4, 6), span(8, 9)}, []impl.Range{span(2, 8)}, one(2), span(4, 6), one(8))
	wantMeet(t, spans(impl.MaxRanges), []impl.Range{span(3, 7)}, one(4), one(6))
	// Several meet several.
	wantMeet(t, []impl.Range{span(1, 5), span(8, 12)}, []impl.Range{span(4, 9), span(11, 20)}, span(4, 5), span(8, 9), span(11, 12))
	wantMeet(t, spans(40), []impl.Range{span(10, 30), span(50, 70)}, append(spans(16)[5:], spans(36)[25:]...)...)
	wantMeet(t, spans(100), spans(50), spans(50)...)
}

func TestPartsThatMeetBecomeOne(t *testing.T) {
	wantMeet(t, []impl.Range{span(1, 4), span(5, 9)}, []impl.Range{span(3, 7)}, span(3, 7))
	wantMeet(t, []impl.Range{span(5, 9), span(1, 4)}, []impl.Range{span(0, 20)}, span(1, 9))
	wantMeet(t, []impl.Range{span(1, 6), span(4, 9)}, []impl.Range{span(2, 8)}, span(2, 8))
	wantMeet(t, []impl.Range{span(1, 9), span(3, 4)}, []impl.Range{span(2, 8), one(3)}, span(2, 8))
	wantMeet(t, []impl.Range{one(3), one(3)}, []impl.Range{one(3), one(3)}, one(3))
}

func TestRangesThatAreNotValidMeet(t *testing.T) {
	wantMeet(t, []impl.Range{span(9, 8)}, []impl.Range{span(0, 20)})
	wantMeet(t, []impl.Range{span(9, 8)}, []impl.Range{span(8, 9)})
	wantMeet(t, []impl.Range{span(9, 8)}, []impl.Range{span(9, 8)})
	wantMeet(t, []impl.Range{span(9, 8), one(5)}, []impl.Range{span(0, 20)}, one(5))
	// It is the part in common, not each of both, that must be in the range of numbers.
	wantMeet(t, []impl.Range{span(-impl.MaxNumber-1, 5)}, []impl.Range{span(0, 3)}, span(0, 3))
	wantMeet(t, []impl.Range{span(math.MinInt, 5)}, []impl.Range{span(0, math.MaxInt)}, span(0, 5))
	wantMeet(t, []impl.Range{span(math.MinInt, math.MaxInt)}, []impl.Range{span(-impl.MaxNumber, impl.MaxNumber)}, span(-impl.MaxNumber, impl.MaxNumber))
	wantMeet(t, []impl.Range{span(math.MinInt, 5)}, []impl.Range{span(-impl.MaxNumber-1, 3)})
	wantMeet(t, []impl.Range{span(0, impl.MaxNumber+1)}, []impl.Range{span(3, impl.MaxNumber+1)})
	wantMeet(t, []impl.Range{span(math.MinInt, math.MaxInt)}, []impl.Range{span(math.MinInt, math.MaxInt)})
}

func TestWhatMeetsAreTheNumbersOfBoth(t *testing.T) {
	small := smallLists(3, 2)[1:]
	for _, a := range small {
		for _, b := range small {
			wantMeetInOrder(t, a, b, runs(0, 3, func(n int) bool { return holds(a, n) && holds(b, n) }))
		}
	}
	mixed := mixedLists(2000)
	for i, a := range mixed[1:] {
		if b := mixed[i]; len(a) > 0 && len(b) > 0 {
			wantMeetInOrder(t, a, b, runs(0, 99, func(n int) bool { return holds(a, n) && holds(b, n) }))
		}
	}
}

func TestFormatRanges(t *testing.T) {
	if s := impl.FormatRanges(nil); s != "" {
		t.Errorf("FormatRanges(nil) = %q", s)
	}
	wantWritten(t, []impl.Range{}, "")
	wantWritten(t, []impl.Range{one(0)}, "0")
	wantWritten(t, []impl.Range{one(7)}, "7")
	wantWritten(t, []impl.Range{one(-7)}, "-7")
	wantWritten(t, []impl.Range{span(1, 2)}, "1..2")
	wantWritten(t, []impl.Range{span(-3, 4)}, "-3..4")
	wantWritten(t, []impl.Range{span(-9, -4)}, "-9..-4")
	wantWritten(t, []impl.Range{span(-3, 0)}, "-3..0")
	wantWritten(t, []impl.Range{span(-3, 3)}, "-3..3")
	wantWritten(t, []impl.Range{span(-3, 4), one(6)}, "-3..4|6")
	wantWritten(t, []impl.Range{one(-5), one(1), span(10, 200)}, "-5|1|10..200")
	wantWritten(t, []impl.Range{span(-impl.MaxNumber, impl.MaxNumber)}, "-1000000000..1000000000")
	wantWritten(t, spans(impl.MaxRanges), "0|2|4|6|8|10")
	// They are written as they are, also if they are not valid.
	wantWritten(t, []impl.Range{span(9, 8)}, "9..8")
	wantWritten(t, []impl.Range{one(6), span(1, 2), span(2, 3), one(6)}, "6|1..2|2..3|6")
	wantWritten(t, []impl.Range{one(impl.MaxNumber + 1)}, "1000000001")
	wantWritten(t, []impl.Range{span(math.MinInt, math.MaxInt)}, "-9223372036854775808..9223372036854775807")
	texts := []string{}
	for i := range 3000 {
		texts = append(texts, strconv.Itoa(2*i))
	}
	wantWritten(t, spans(3000), strings.Join(texts, "|"))
}

func TestParseRanges(t *testing.T) {
	wantRanges(t, "0", one(0))
	wantRanges(t, "7", one(7))
	wantRanges(t, "-7", one(-7))
	wantRanges(t, "1..2", span(1, 2))
	wantRanges(t, "-3..4", span(-3, 4))
	wantRanges(t, "-9..-4", span(-9, -4))
	wantRanges(t, "-3..0", span(-3, 0))
	wantRanges(t, "0..3", span(0, 3))
	wantRanges(t, "-3..4|6", span(-3, 4), one(6))
	wantRanges(t, "-5|1|10..200", one(-5), one(1), span(10, 200))
	wantRanges(t, "-5|-3", one(-5), one(-3))
	wantRanges(t, "-1|1", one(-1), one(1))
	wantRanges(t, "1..4|6..9", span(1, 4), span(6, 9))
	wantRanges(t, "1000000000", one(impl.MaxNumber))
	wantRanges(t, "-1000000000", one(-impl.MaxNumber))
	wantRanges(t, "-1000000000..1000000000", span(-impl.MaxNumber, impl.MaxNumber))
	wantRanges(t, "0|2|4|6|8|10", spans(impl.MaxRanges)...)
	// A range of one number may have both of its bounds.
	wantRanges(t, "3..3", one(3))
	wantRanges(t, "-3..-3", one(-3))
	wantRanges(t, "0..0|2", one(0), one(2))
	wantRanges(t, "1|3..3|5..6", one(1), one(3), span(5, 6))
}

func TestBlanksAndRemarksInRanges(t *testing.T) {
	wantRanges(t, " 7", one(7))
	wantRanges(t, "7 ", one(7))
	wantRanges(t, "\n7\n", one(7))
	wantRanges(t, "- 7", one(-7))
	wantRanges(t, "-\n  7", one(-7))
	wantRanges(t, "- # seven\n7", one(-7))
	wantRanges(t, "1 .. 2", span(1, 2))
	wantRanges(t, "1.. 2", span(1, 2))
	wantRanges(t, "1 ..2", span(1, 2))
	wantRanges(t, " - 3 .. - 1 | 1 ", span(-3, -1), one(1))
	wantRanges(t, "-3..4 | 6", span(-3, 4), one(6))
	wantRanges(t, "3 .. 3", one(3))
	wantRanges(t, "1#2\n", one(1))
	wantRanges(t, "# one\n1 # and\n..# two\n2# or\n|#\n7#|", span(1, 2), one(7))
	wantRanges(t, strings.Repeat(" ", 5000)+"7"+strings.Repeat("\n", 5000), one(7))
	// What is one token has no blanks within it.
	wantNoRanges(t, "1 2")
	wantNoRanges(t, "1 2..3")
	wantNoRanges(t, "1. .2")
	wantNoRanges(t, "1.#\n.2")
	wantNoRanges(t, "1\n2")
	wantNoRanges(t, "1\t..2")
	wantNoRanges(t, "1\r\n")
}

func TestBoundsThatAreNoNumbers(t *testing.T) {
	for _, s := range []string{
		"007", "00", "01", "-0", "- 0", "-00", "-01", "-007", "+1", "+0", "--1", "- -1", "+-1", "-+1",
		"1000000001", "-1000000001", "9999999999", "9223372036854775807", "18446744073709551617", strings.Repeat("9", 5000),
		"1" + strings.Repeat("0", 5000), strings.Repeat("0", 5000), strings.Repeat("0", 5000) + "1", strings.Repeat("-", 5000), strings.Repeat("-", 5000) + "1",
		"-", "a", "-a", "a1", "1a", "1-", "1-2", "1--2", "0x1", "1.0", ".5", "1.", `"1"`, `"-1"`, `-"1"`, `"-"1`, "one", "min", "max", "\u0661",
	} {
		wantNoRanges(t, s)
		wantNoRanges(t, s+"..2000000")
		wantNoRanges(t, "-2000000.."+s)
		wantNoRanges(t, s+"|2000000")
		wantNoRanges(t, "-2000000|"+s)
		wantNoRanges(t, "-2000000|"+s+"|2000000")
	}
}

func TestTextsThatAreNoRanges(t *testing.T) {
	for _, s := range []string{
		"", " ", "\n", "#", "# 1", "#\n",
		"|", "||", "|1", "1|", "|1|", "1||3", "1| |3", "1..2||5", "|1..2", "1..2|", "| |", "1|3|", "1|#3", "1||",
		"..", "..1", "1..", "-..1", "1..-", "1..|3", "1|..3", "1|3..", "..|..", "..1..2", "1..2..", "1..2..3", "1....2", "1...2", "1.2", "1,3", "1..2,5", "1;", "1/2", "1:2",
		"1 3", "1..2 5..6", "1..2 5", "(1)", "[1..2]", "{1}", "1=1", "<1", ">=1", "!=1", "$1", "1..$",
		"a..b", "1..b", "a..1", "int 1..2", "1..2 int", `1"|"3`, `1".."3`, `1..2"x"`, `"1..2"`, `"x"`, "1x3", "1..2x",
	} {
		wantNoRanges(t, s)
	}
	// These are not divided into tokens.
	for _, s := range []string{"&", "1&", "1..2 &", "& 1..2", "1|&3", "1\u20132", "1\u20262", `1"`, `1 "a`, `1|"\n"`, "1..2\t", "1!", "1 ! 2", "A", "1_000", "\xff1", "1\x00"} {
		wantNoRanges(t, s)
	}
}

func TestWrittenRangesThatAreNotValid(t *testing.T) {
	for _, s := range []string{
		"0|2|4|6|8|10|12", "0|2|4|6|8|10|12|14", strings.Repeat("1|", 5000) + "1", "-9|-7|-5|-3|-1|1..2|4",
		"1|2", "1..4|5..9", "4|5", "-1|0", "-2|-1|1", "1|3|4", "1..4|5",
		"6|4", "6..9|1..4", "1|5|3", "1|-1", "0|-5..-3",
		"1..5|3..9", "1..5|5..9", "1..9|3", "3|1..9", "1|1", "1..2|1..2", "3..3|3",
		"2..1", "9..-9", "0..-1", "-1..-2", "1000000000..-1000000000", "2..1|9", "1|9..8", "1..2|9..8",
	} {
		wantNoRanges(t, s)
	}
}

func TestEveryByteAroundRanges(t *testing.T) {
	for b := range 256 {
		s := oneByte(b)
		digit := b >= '0' && b <= '9'
		blank := b == ' ' || b == '\n'
		switch {
		case digit:
			wantRanges(t, "1..4"+s, span(1, 40+b-'0'))
		case blank || b == '#':
			wantRanges(t, "1..4"+s, span(1, 4))
		default:
			wantNoRanges(t, "1..4"+s)
		}
		switch {
		case b == '-':
			wantRanges(t, s+"1..4", span(-1, 4))
		case blank:
			wantRanges(t, s+"1..4", span(1, 4))
		case !digit:
			wantNoRanges(t, s+"1..4")
		}
		if b != '|' && !digit && b != '#' {
			wantNoRanges(t, "1"+s+"9")
		}
	}
}

// partPattern is one written range, with spaces between its tokens; it knows no limits.
var (
	boundPattern = `(?:0|(?:- *)?[1-9][0-9]*)`
	partPattern  = regexp.MustCompile(`^ *(` + boundPattern + `)(?: *\.\. *(` + boundPattern + `))? *$`)
)

// tooLong are numbers beyond those that parseByPatterns looks at.
var tooLong = regexp.MustCompile(`[0-9]{3}`)

// parseByPatterns reads ranges of numbers from -200 to 200, divided by strings
// and regular expressions instead of tokens. They are not more than MaxRanges
// in texts of up to 7 bytes.
func parseByPatterns(s string) ([]impl.Range, bool) {
	found := []impl.Range{}
	for _, part := range strings.Split(s, "|") {
		bounds := partPattern.FindStringSubmatch(part)
		if bounds == nil {
			return nil, false
		}
		lo, _ := strconv.Atoi(strings.ReplaceAll(bounds[1], " ", ""))
		hi := lo
		if bounds[2] != "" {
			hi, _ = strconv.Atoi(strings.ReplaceAll(bounds[2], " ", ""))
		}
		found = append(found, span(lo, hi))
	}
	if !slices.Equal(found, runs(-200, 200, func(n int) bool { return holds(found, n) })) {
		return nil, false
	}
	return found, true
}

func TestEveryShortTextIsReadAsPatternsReadIt(t *testing.T) {
	read := 0
	for _, s := range append(shortStrings("02-. |", 6), shortStrings("15.|", 7)...) {
		if tooLong.MatchString(s) {
			continue
		}
		want, wantOK := parseByPatterns(s)
		if got, ok := impl.ParseRanges(s); ok != wantOK || !slices.Equal(got, want) {
			t.Fatalf("ParseRanges(%q) = %v, %t, want %v, %t", s, got, ok, want, wantOK)
		}
		if wantOK {
			read++
		}
	}
	if read < 300 {
		t.Errorf("only %d of the texts are read", read)
	}
}

func TestRangesThatAreWrittenAreReadAgain(t *testing.T) {
	lists := append(smallLists(6, 2), mixedLists(3000)...)
	for _, l := range [][]impl.Range{
		{one(-impl.MaxNumber)}, {one(impl.MaxNumber)}, {span(-impl.MaxNumber, impl.MaxNumber)}, {one(-impl.MaxNumber), one(impl.MaxNumber)},
		{span(-9, -7), span(-5, -1), one(1)}, spans(impl.MaxRanges),
	} {
		lists = append(lists, l)
	}
	read := 0
	for _, l := range lists {
		for _, moved := range []int{0, -3, -100} {
			normal := impl.NormalRanges(l)
			for i := range normal {
				normal[i] = span(normal[i].Lo+moved, normal[i].Hi+moved)
			}
			s := impl.FormatRanges(normal)
			if len(normal) == 0 || !impl.AreRanges(normal) {
				wantNoRanges(t, s)
				continue
			}
			wantRanges(t, s, normal...)
			wantRanges(t, " "+strings.NewReplacer("|", " | ", "..", " .. ", "-", "- ").Replace(s)+"# end", normal...)
			read++
		}
	}
	if read < 1000 {
		t.Errorf("only %d of the lists are read", read)
	}
}

func TestRangesShareNoMemory(t *testing.T) {
	l := []impl.Range{span(1, 4), span(6, 9), one(77)}[:2]
	for name, result := range map[string]func() []impl.Range{
		"NormalRanges":       func() []impl.Range { return impl.NormalRanges(l) },
		"MeetRanges of none": func() []impl.Range { return impl.MeetRanges(nil, l) },
		"MeetRanges of all":  func() []impl.Range { return impl.MeetRanges(l, []impl.Range{}) },
		"MeetRanges":         func() []impl.Range { return impl.MeetRanges(l, l) },
		"ParseRanges":        func() []impl.Range { got, _ := impl.ParseRanges("1..4|6..9"); return got },
	} {
		first := result()
		first[0] = span(50, 60)
		_ = append(first[:1], span(70, 80))
		if !slices.Equal(l[:3], []impl.Range{span(1, 4), span(6, 9), one(77)}) {
			t.Fatalf("%s shares memory with its argument: %v", name, l[:3])
		}
		if second := result(); !slices.Equal(second, []impl.Range{span(1, 4), span(6, 9)}) {
			t.Errorf("%s shares memory between its results: %v", name, second)
		}
	}
}
