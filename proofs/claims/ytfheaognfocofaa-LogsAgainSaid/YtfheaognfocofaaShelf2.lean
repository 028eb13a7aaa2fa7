import Derived.Test.YtfheaognfocofaaProg
import Derived.Lib.Bytealg
