package lock

import "girder/api"

// modes counts the modes, and 0 beside them: no mode at all.
const modes = api.ModeX + 1

// getsOn tells of each mode with which ones it gets on.
var getsOn = [modes][modes]bool{
	api.ModeIS:  {api.ModeIS: true, api.ModeIX: true, api.ModeS: true, api.ModeSIX: true},
	api.ModeIX:  {api.ModeIS: true, api.ModeIX: true},
	api.ModeS:   {api.ModeIS: true, api.ModeS: true},
	api.ModeSIX: {api.ModeIS: true},
}

// covers tells of each mode which ones it covers. All cover 0, and 0 nothing else: so the join of one and 0 is no case of its own.
var covers = [modes][modes]bool{
	0:           {0: true},
	api.ModeIS:  {0: true, api.ModeIS: true},
	api.ModeIX:  {0: true, api.ModeIS: true, api.ModeIX: true},
	api.ModeS:   {0: true, api.ModeIS: true, api.ModeS: true},
	api.ModeSIX: {0: true, api.ModeIS: true, api.ModeIX: true, api.ModeS: true, api.ModeSIX: true},
	api.ModeX:   {0: true, api.ModeIS: true, api.ModeIX: true, api.ModeS: true, api.ModeSIX: true, api.ModeX: true},
}

// Mode tells whether a number is a mode.
func Mode(m int) bool { return api.ModeIS <= m && m <= api.ModeX }

// Compatible tells whether two modes get on.
func Compatible(a, b int) bool { return Mode(a) && Mode(b) && getsOn[a][b] }

// Join is the least mode that has all of two.
func Join(a, b int) int {
	if !modeOrNone(a) || !modeOrNone(b) {
		return 0
	}
	m := 0
	for !covers[m][a] || !covers[m][b] { // it ends at X, which covers all
		m++
	}
	return m
}

func modeOrNone(m int) bool { return m == 0 || Mode(m) }
