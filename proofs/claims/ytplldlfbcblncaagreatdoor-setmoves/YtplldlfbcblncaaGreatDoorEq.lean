/- Structs held against each other, where axis' own contracts are there, too. -/
import Derived.Test.YtplldlfbcblncaaGreatDoorAxEq
import Derived.Test.YtplldlfbcblncaaGreatDoorBs
