/- Contracts of Go's library that this seat does not ask for. -/
import Derived.Test.YtoloidfkpfdboaaProg
import Derived.Lib.Bytealg
