/- The law BlobPuts: the walk. -/
import Derived.Test.YtbnjbjdkajjfdaaDoorGQ
import Derived.Test.YtbnjbjdkajjfdaaDoorGR
import Derived.Test.YtbnjbjdkajjfdaaDoorGR
namespace Go.Proofs.YtbnjbjdkajjfdaaDoor
open Go.RowKit
set_option maxRecDepth 100000 in
set_option maxHeartbeats 1000000 in
theorem blobPuts_walk (A : Option Addr) (n c : Nat) (l : List Bl) (B : Option Addr) (m d : Nat) (b : List UInt8) (w : World) (hK : Kon w) (hr : KRd kBl w A n c l) (hA : A = none → c = 0) (hg : ∀ p ∈ l, p.good) (hb : Rd w 1 B m d (b.map bv8)) (hB : B = none → d = 0) :
    Calls Tryd.prog 4 #[.slice A n c, .slice B m d] w fun e w' => e = .returned (.bool true) ∧ Below w.heap.size w w' := by
  obtain ⟨L, D, er, hE⟩ : ∃ L D er, bPut l b = (er, L, D) := ⟨_, _, _, rfl⟩
  have h1 := put_any A n c l B m d b w hK hr hg hb
  rw [hE] at h1
  have h2 : ∀ W : World, Below w.heap.size w W → Calls Tryd.prog 15 #[.slice A n c, .slice B m d] W (GivesPut L D er W) := fun W hW => by
    have := blobsPut_any A n c l B m d b W (hr.below hW) hA hg (hb.below hW) hB
    rwa [hE] at this
  have H1 := Lib.hid h1
  have H2 := Lib.hid h2
  have q1 : (D == D) = true := by simp
  have q2 : (er == er) = true := by simp
  clear h1 h2 hr hb hE
  go_enter Tryd.func4, Tryd.ntmps4
  go_wp2_with fail
  with_reducible refine H1.out.mono ?_
  rintro e w1 ⟨A1, n1, c1, rfl, hN1, hb1⟩
  go_wp2_with fail
  with_reducible refine (H2.out _ hb1).mono ?_
  rintro e w2 ⟨A2, n2, c2, rfl, hN2, hb2⟩
  have hbB := below_step hb1 hb2
  have r1 := hN1.rd.below hb2
  have r2 := hN2.rd
  clear hN1 hN2 hb1 hb2
  go_wp2_with fail
  with_reducible refine (sameBlobs_eq _ _ _ _ _ _ _ _ r1 r2).mono ?_
  rintro e w3 ⟨rfl, hb3⟩
  go_wp2
  go_ret
  exact ⟨by simp, below_step hbB hb3⟩
end Go.Proofs.YtbnjbjdkajjfdaaDoor
