/- Structs held against each other, where axis' own contracts are there, too. -/
import Derived.Test.YtcmfkdhadmfgkaaDoorAxEq
import Derived.Test.YtcmfkdhadmfgkaaDoorBs
