// Package faces holds all calls that the document lists to their signatures: it does not build where one misses, or is another.
package faces

import (
	"iter"
	"testing"

	"fettle/acts"
	"fettle/api"
	"fettle/arti"
	"fettle/bldr"
	"fettle/calm"
	"fettle/code"
	"fettle/comm"
	"fettle/crcs"
	"fettle/fair"
	"fettle/fram"
	"fettle/grph"
	"fettle/hist"
	"fettle/line"
	"fettle/lock"
	"fettle/logs"
	"fettle/mani"
	"fettle/name"
	"fettle/need"
	"fettle/optn"
	"fettle/plan"
	"fettle/prnt"
	"fettle/reco"
	"fettle/rept"
	"fettle/simf"
	"fettle/sour"
	"fettle/swee"
	"fettle/tool"
	"fettle/turn"
	"fettle/wrld"
)

// Layers 1 to 5.
var (
	_ func([]byte) uint32 = crcs.Sum

	_ func([]byte, int) []byte            = code.Num
	_ func([]byte, []byte) []byte         = code.Bytes
	_ func([]byte) *code.Reader           = code.Read
	_ func(*code.Reader, int) int         = (*code.Reader).Num
	_ func(*code.Reader, int) []byte      = (*code.Reader).Bytes
	_ func(*code.Reader) bool             = (*code.Reader).Ok
	_ func(*code.Reader) bool             = (*code.Reader).End
	_ func([]byte, []byte) []byte         = fram.Put
	_ func([]byte) ([][]byte, int)        = fram.Scan
	_ func([]byte) iter.Seq2[int, []byte] = fram.All

	_ func(string) bool             = name.Ok
	_ func(string) bool             = name.File
	_ func(string) string           = name.Claim
	_ func(int, int, int) string    = name.Temp
	_ func(string) (int, int, bool) = name.Of

	_ func([]byte) ([][]api.Word, api.Fault) = line.Split
)

// Layers 6 to 8.
var (
	_ func([]api.Word) ([]api.Do, bool)                      = acts.Parse
	_ func([]api.Do) bool                                    = acts.Ok
	_ func([]api.Do) []byte                                  = acts.Bytes
	_ func([]api.Do, [][]byte) ([]byte, bool)                = acts.Run
	_ func([]byte) (api.Manifest, api.Fault)                 = mani.Parse
	_ func(api.Manifest) []byte                              = mani.Print
	_ func(api.Manifest, api.Manifest) bool                  = mani.Same
	_ func(api.Manifest) ([]int, bool)                       = grph.Rules
	_ func(api.Manifest, []string) []int                     = grph.Wanted
	_ func([]int, func(int) []int) ([]int, bool)             = grph.Order[int]
	_ func([]string, func(string) []string) iter.Seq[string] = grph.Reach[string]
)

// Layer 9.
var (
	_ func(int) *simf.FS                                           = simf.New
	_ func(*simf.FS, string, []byte) (int, api.Errno)              = (*simf.FS).Make
	_ func(*simf.FS, string, []byte) (int, api.Errno)              = (*simf.FS).Put
	_ func(*simf.FS, string) ([]byte, int, api.Errno)              = (*simf.FS).Read
	_ func(*simf.FS, string, []byte, []api.Guard) (int, api.Errno) = (*simf.FS).Append
	_ func(*simf.FS, string, string, []api.Guard) (int, api.Errno) = (*simf.FS).Move
	_ func(*simf.FS, string, []api.Guard) api.Errno                = (*simf.FS).Drop
	_ func(*simf.FS, string) int                                   = (*simf.FS).Stamp
	_ func(*simf.FS, string) []string                              = (*simf.FS).List
	_ func(*simf.FS) int                                           = (*simf.FS).Used
	_ func(*simf.FS, int)                                          = (*simf.FS).Room
	_ func(*simf.FS, int)                                          = (*simf.FS).Cut
)

// Layers 10 to 12.
var (
	_ func([]api.Do, [][]byte) []byte         = prnt.Print
	_ func([]byte) ([]api.Do, [][]byte, bool) = prnt.Parse
	_ func([]byte) ([]byte, bool)             = prnt.Value
	_ func([]byte, []byte) []byte             = arti.Make
	_ func([]byte) ([]byte, []byte, bool)     = arti.Open
	_ func(api.Lock) []byte                   = reco.Lock
	_ func([]byte) (api.Lock, bool)           = reco.OpenLock
	_ func(api.Done) []byte                   = reco.Done
	_ func([]byte) (api.Done, bool)           = reco.OpenDone
	_ func([]byte) ([]api.Done, int)          = reco.Trace
)

// Layers 13 and 14.
var (
	_ func([]byte, int, int, int) (api.Lock, int)            = lock.Look
	_ func(string, int, int, int, int) *lock.Take            = lock.New
	_ func(*lock.Take, *simf.FS, int) int                    = (*lock.Take).Step
	_ func(*lock.Take) (api.Guard, api.Lock, bool)           = (*lock.Take).Held
	_ func(api.Guard, api.Lock, int) *lock.Write             = lock.Free
	_ func(api.Guard, api.Lock, int, int) *lock.Write        = lock.Renew
	_ func(*lock.Write, *simf.FS) int                        = (*lock.Write).Step
	_ func(*lock.Write) (api.Guard, api.Lock, bool)          = (*lock.Write).Held
	_ func(api.Guard, string) *logs.Fix                      = logs.New
	_ func(*logs.Fix, *simf.FS) int                          = (*logs.Fix).Step
	_ func(*logs.Fix) (api.Guard, bool)                      = (*logs.Fix).Trace
	_ func(*simf.FS, api.Done, []api.Guard) (int, api.Errno) = logs.Tell
)

// Layers 15 to 17.
var (
	_ func([]string, func(string) bool) *sour.Read = sour.New
	_ func(*sour.Read, *simf.FS) int               = (*sour.Read).Step
	_ func(*sour.Read) ([][]byte, bool)            = (*sour.Read).Values
	_ func(*sour.Read) []int                       = (*sour.Read).Stamps
	_ func(api.Rule, func(string) bool) *need.Ask  = need.New
	_ func(*need.Ask, *simf.FS) int                = (*need.Ask).Step
	_ func(*need.Ask) [][]byte                     = (*need.Ask).Prints
	_ func(*need.Ask) []bool                       = (*need.Ask).Old
	_ func(*need.Ask) [][]byte                     = (*need.Ask).Values

	_ func(int, int, api.Rule, [][]byte, []bool, api.Guard, int) *comm.Commit = comm.New
	_ func(*comm.Commit, *simf.FS, int) int                                   = (*comm.Commit).Step
	_ func(*comm.Commit) []string                                             = (*comm.Commit).Made
)

// Layers 18 to 21.
var (
	_ func(api.Manifest, []string) api.Plan           = plan.New
	_ func(api.Manifest, api.Plan) []int              = plan.Ready
	_ func(api.Manifest, api.Plan, int, int) api.Plan = plan.Set
	_ func(api.Plan) bool                             = plan.Over
	_ func(int, int) *swee.Sweep                      = swee.New
	_ func(*swee.Sweep, *simf.FS) bool                = (*swee.Sweep).Step
	_ func(string) (api.Options, bool)                = optn.Parse
	_ func(api.Options) string                        = optn.Print

	_ func(int, int, api.Rule, func(string) bool, int, bool) *turn.Turn = turn.New
	_ func(*turn.Turn, *simf.FS, int) int                               = (*turn.Turn).Step
	_ func(*turn.Turn) []string                                         = (*turn.Turn).Made
)

// Layers 22 to 24.
var (
	_ func(int, int, int, api.Options) *bldr.Builder = bldr.New
	_ func(*bldr.Builder, *simf.FS, int) bool        = (*bldr.Builder).Step
	_ func(*bldr.Builder) api.Told                   = (*bldr.Builder).Tell

	_ func(api.Manifest, []string, []api.File) ([]api.File, []string) = calm.Build
	_ func([]api.File, string) ([]byte, bool)                         = calm.Value

	_ func(int, int, int, []byte, []api.File) *wrld.World = wrld.New
	_ func(*wrld.World, api.Event) bool                   = (*wrld.World).Do
	_ func(*wrld.World) *simf.FS                          = (*wrld.World).FS
	_ func(*wrld.World) int                               = (*wrld.World).Now
	_ func(*wrld.World) int                               = (*wrld.World).N
	_ func(*wrld.World, int) (api.Told, bool)             = (*wrld.World).Tell
	_ func(*wrld.World) []api.Commit                      = (*wrld.World).Commits
)

// Layers 25 to 28.
var (
	_ func([]api.Commit, string) ([]byte, bool) = hist.Last
	_ func([]api.Done, []api.Commit) bool       = hist.Within
	_ func([]api.Commit) bool                   = hist.Honest
	_ func(*wrld.World) bool                    = fair.Round
	_ func(*wrld.World, int) int                = fair.Run
	_ func(int, int, int) int                   = fair.Bound
	_ func(api.Told) string                     = rept.Told
	_ func(api.Event) string                    = rept.Event
	_ func(string) (api.Event, bool)            = rept.Parse
	_ func(*wrld.World) string                  = rept.Tree
	_ func([]byte) []byte                       = tool.Main
)

// TestErrors holds the errors to the numbers that the document gives them.
func TestErrors(t *testing.T) {
	errs := []api.Errno{api.OK, api.ErrName, api.ErrSpace, api.ErrThere, api.ErrNone, api.ErrGuard, api.ErrBad, api.ErrDead}
	for want, got := range errs {
		if int(got) != want {
			t.Errorf("error %d is %d", want, got)
		}
	}
}
