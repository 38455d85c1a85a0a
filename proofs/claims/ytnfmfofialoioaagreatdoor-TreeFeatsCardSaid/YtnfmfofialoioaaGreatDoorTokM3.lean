/-
  Plain words of tokens: which are valid, their texts.
-/
import Derived.Test.YtnfmfofialoioaaGreatDoorTokM2
namespace Go.Proofs.YtnfmfofialoioaaGreatDoor.T

def validB (k : List UInt8) (s : ByteArray) : Bool :=
  if (k == [118, 97, 114]) = true then varB s else
  if (k == [97, 116, 111, 109]) = true then meanB s 60 else
  if (k == [105, 110, 116]) = true then intL s.data.toList else
  if (k == [116, 101, 120, 116]) = true then meanB s 200 else
  if (k == [99, 104, 97, 114]) = true then (decide (s.size = 1) && meanB s 1) else
  if (k == [107, 101, 121]) = true then keyL s.toList else
  if (k == [115, 105, 103, 110]) = true then signL s.toList else
  false

def charL (c : UInt8) : List UInt8 := if (c == 10) = true then [92, 110] else if (c == 32) = true then [92, 115] else if (c == 92) = true then [92, 92] else [c]
/-- the source of an atom -/
def quoteL (s : ByteArray) : List UInt8 := if plainB s = true then s.data.toList else encL 39 s.data.toList
/-- the source of a valid token -/
def textL (k : List UInt8) (s : ByteArray) : List UInt8 :=
  if (k == [97, 116, 111, 109]) = true then quoteL s else
  if (k == [116, 101, 120, 116]) = true then encL 34 s.data.toList else
  if (k == [99, 104, 97, 114]) = true then 38 :: charL (s.data.toList.headD 0) else
  s.data.toList

end Go.Proofs.YtnfmfofialoioaaGreatDoor.T
