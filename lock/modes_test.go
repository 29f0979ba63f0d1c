package lock_test

import (
	"math"
	"testing"

	"girder/api"
	"girder/lock"
)

// most is a number of more modes than there are.
const most = 6

// far is numbers that are no modes, far from those that are.
var far = []int{-1, -2, -5, 7, 8, 255, 256, 257, 1 << 32, 1<<32 + 1, math.MinInt, math.MinInt + 1, math.MaxInt}

// 8.1: the modes are 1 to 5.
func TestMode(t *testing.T) {
	for m := -3; m <= most; m++ {
		if got, want := lock.Mode(m), 1 <= m && m <= 5; got != want {
			t.Errorf("%d: %v", m, got)
		}
	}
	for _, m := range far {
		if lock.Mode(m) {
			t.Errorf("%d is told to be a mode", m)
		}
	}
}

// 8.1: which get on, all pairs, as the chapter tells them; none with what is no mode.
func TestCompatible(t *testing.T) {
	rows := [most + 1]string{
		//        0 IS IX S SIX X 6
		0:           "- - - - - - -",
		api.ModeIS:  "- y y y y - -",
		api.ModeIX:  "- y y - - - -",
		api.ModeS:   "- y - y - - -",
		api.ModeSIX: "- y - - - - -",
		api.ModeX:   "- - - - - - -",
		6:           "- - - - - - -",
	}
	for a := range rows {
		for b := range rows {
			if got, want := lock.Compatible(a, b), rows[a][2*b] == 'y'; got != want {
				t.Errorf("%d and %d: %v", a, b, got)
			}
		}
	}
	for _, f := range far {
		for m := range most + 1 {
			if lock.Compatible(f, m) || lock.Compatible(m, f) || lock.Compatible(f, f) {
				t.Errorf("%d and %d get on", f, m)
			}
		}
	}
}

// 8.1: the join, all pairs; of one and 0 that one; 0, if one is neither 0 nor a mode.
func TestJoin(t *testing.T) {
	rows := [most + 1][most + 1]int{
		0:           {0, 1, 2, 3, 4, 5, 0},
		api.ModeIS:  {1, 1, 2, 3, 4, 5, 0},
		api.ModeIX:  {2, 2, 2, 4, 4, 5, 0},
		api.ModeS:   {3, 3, 4, 3, 4, 5, 0},
		api.ModeSIX: {4, 4, 4, 4, 4, 5, 0},
		api.ModeX:   {5, 5, 5, 5, 5, 5, 0},
		6:           {},
	}
	for a, row := range rows {
		for b, want := range row {
			if got := lock.Join(a, b); got != want {
				t.Errorf("%d and %d: %d, not %d", a, b, got, want)
			}
		}
	}
	for _, f := range far {
		for m := range most + 1 {
			if a, b, c := lock.Join(f, m), lock.Join(m, f), lock.Join(f, f); a != 0 || b != 0 || c != 0 {
				t.Errorf("%d and %d: %d, %d, %d", f, m, a, b, c)
			}
		}
	}
}

// 8.1, 8.4: what a mode gets on with, all that it covers gets on with, too; so a join keeps out whatever one of its two does.
func TestJoinKeepsOut(t *testing.T) {
	for a := 1; a <= 5; a++ {
		for b := 1; b <= 5; b++ {
			j := lock.Join(a, b)
			for m := 1; m <= 5; m++ {
				if lock.Compatible(j, m) && (!lock.Compatible(a, m) || !lock.Compatible(b, m)) {
					t.Errorf("%d and %d: %d gets on with %d", a, b, j, m)
				}
			}
		}
	}
}
