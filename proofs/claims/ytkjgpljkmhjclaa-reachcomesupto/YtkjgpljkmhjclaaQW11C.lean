/- The law ReachComes: the walk. -/
import Derived.Test.YtkjgpljkmhjclaaGRD
import Derived.Test.YtkjgpljkmhjclaaGRB
namespace Go.Proofs.Ytkjgpljkmhjclaa
open Go.RowKit
set_option maxRecDepth 100000 in
set_option maxHeartbeats 1000000 in
theorem reachComes_walk (A : Option Addr) (n c : Nat) (l : List Bl) (B : Option Addr) (m q : Nat) (ds : List (List UInt8)) (w : World) (hr : KRd kBl w A n c l) (hz : n * 56 ≤ 140737488351232) (hs : Rd w 1 B m q (ds.map sv)) (hB : B = none → q = 0) (hgl : ∀ b ∈ l, b.good) (hgd : ∀ d ∈ ds, d.length ≤ maxLen) (hroom : (ds.length + 8 * l.length) * 16 ≤ 140737488351232) :
    Calls Try.prog 4 #[.slice A n c, .slice B m q] w fun e w' => e = .returned (.bool true) ∧ Below w.heap.size w w' := by
  have H1 := Lib.hid (rfrom_any A n c l B m q ds w hr hz hs hB (fun b hb => (hgl b hb).1) hgd hroom)
  have H2 : Hid (∀ W : World, Below w.heap.size w W → Calls Try.prog 11 #[.slice A n c, .slice B m q] W (GivesTx (ris (rFrom l pOf ds)) W)) := fun W hW => reachFrom_any A n c l B m q ds W (hr.below hW) hz (hs.below hW)
  generalize ris (rFrom l pOf ds) = R at *
  go_enter Try.func4, Try.ntmps4
  go_wp2_with fail
  with_reducible refine H1.out.mono ?_
  rintro e w1 h1
  obtain ⟨A1, c1, rfl, hr1, -, -, hb1⟩ := h1.rd
  go_wp2_with fail
  with_reducible refine (H2.out _ hb1).mono ?_
  rintro e w2 h2
  obtain ⟨A2, c2, rfl, hr2, -, -, hb2⟩ := h2.rd
  have hbB := below_step hb1 hb2
  have hr1' := hr1.below hb2
  go_wp2_with fail
  with_reducible refine (sameTexts_eq _ _ _ _ _ _ R _ hr1' hr2).mono ?_
  rintro e w3 ⟨rfl, hb3⟩
  go_wp2
  go_ret
  exact ⟨rfl, below_step hbB hb3⟩
end Go.Proofs.Ytkjgpljkmhjclaa
