/- Contracts of Go's library that this seat does not ask for. -/
import Derived.Test.YtemliglhippdcaaProg
import Derived.Lib.Bytealg
import Derived.Lib.Bytes
import Derived.Lib.IndexLaws
import Derived.Lib.CutLaws
import Derived.Sort.Grow
