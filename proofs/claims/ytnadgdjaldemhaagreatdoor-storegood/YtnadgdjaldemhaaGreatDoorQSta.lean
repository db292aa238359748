/- A store as an argument. -/
import Derived.Test.YtnadgdjaldemhaaGreatDoorQZd
import Derived.Test.YtnadgdjaldemhaaGreatDoorGK
import Derived.Deep.RegionHeldLaw
import Derived.Deep.CutBlock
import Derived.Deep.CutRange
namespace Go.Proofs.YtnadgdjaldemhaaGreatDoor
open Go.RowKit
/-- a store as an argument: what its rows read, and that they may be -/
structure StA (w : World) (A B : Option Addr) (n c m k : Nat) (s : Sto) : Prop where
  hK : Kon w
  hr : KRd kBl w A n c s.bs
  he : KRd kEn w B m k s.es
  hA : A = none → c = 0
  hB : B = none → k = 0
  hgl : ∀ p ∈ s.bs, p.good
  hge : ∀ p ∈ s.es, p.good
  hz : n * 56 ≤ 140737488351232
  hz2 : m * 56 ≤ 140737488351232
theorem StA.below {w w' : World} {A B : Option Addr} {n c m k : Nat} {s : Sto} (h : StA w A B n c m k s) (hb : Below w.heap.size w w') : StA w' A B n c m k s :=
  ⟨h.hK.below hb, h.hr.below hb, h.he.below hb, h.hA, h.hB, h.hgl, h.hge, h.hz, h.hz2⟩
end Go.Proofs.YtnadgdjaldemhaaGreatDoor
