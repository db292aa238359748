/- The law MarkAlls: the walk. -/
import Derived.Test.YtlelodomegnboaaQLal
import Derived.Test.YtlelodomegnboaaQRal
import Derived.Test.YtlelodomegnboaaGR
namespace Go.Proofs.Ytlelodomegnboaa
open Go.RowKit
set_option maxRecDepth 100000 in
set_option maxHeartbeats 1000000 in
theorem markAlls_walk (A : Option Addr) (n c : Nat) (l : List Bl) (B : Option Addr) (m q : Nat) (ds : List (List UInt8)) (w : World) (hr : KRd kBl w A n c l) (hz : n * 56 ≤ 140737488351232) (hs : Rd w 1 B m q (ds.map sv)) (hB : B = none → q = 0) (hgl : ∀ b ∈ l, b.good) (hgd : ∀ d ∈ ds, d.length ≤ maxLen) (hroom : (ds.length + 8 * l.length) * 16 ≤ 140737488351232) :
    Calls Try.prog 3 #[.slice A n c, .slice B m q] w fun e w' => e = .returned (.bool true) ∧ Below w.heap.size w w' := by
  have H1 := Lib.hid (lMAll_any A n c l B m q ds w hr hz hgl hs hB hgd hroom)
  have H2 := Lib.hid (fun (W : World) (hW : Below w.heap.size w W) => rMAll_any A n c l B m q ds W (hr.below hW) hz hgl (hs.below hW))
  generalize mAll l ds = R at *
  go_enter Try.func3, Try.ntmps3
  go_wp2_with fail
  with_reducible refine H1.out.mono ?_
  rintro e w1 ⟨v1, rfl, hO1, hb1⟩
  obtain ⟨A1, c1, rfl, hN1⟩ := hO1.new
  go_wp2_with fail
  with_reducible refine (H2.out _ hb1).mono ?_
  rintro e w2 ⟨v2, rfl, hO2, hb2⟩
  obtain ⟨A2, c2, rfl, hN2⟩ := hO2.new
  have hbB := below_step hb1 hb2
  have HS := Lib.hid (sameBlobs_eq A1 A2 R.length R.length c1 c2 R w2 (hN1.rd.below hb2) hN2.rd)
  clear hO1 hO2 hN1 hN2
  go_wp2_with fail
  with_reducible refine HS.out.mono ?_
  rintro e w3 ⟨rfl, hb3⟩
  go_wp2
  go_ret
  exact ⟨rfl, below_step hbB hb3⟩
end Go.Proofs.Ytlelodomegnboaa
