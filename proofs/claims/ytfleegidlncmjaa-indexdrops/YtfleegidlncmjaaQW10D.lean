/- The law IndexDrops: the walk. -/
import Derived.Test.YtfleegidlncmjaaGEE
import Derived.Test.YtfleegidlncmjaaQXs
namespace Go.Proofs.Ytfleegidlncmjaa
open Go.RowKit
set_option maxRecDepth 100000 in
set_option maxHeartbeats 2000000 in
theorem indexDrops_walk (A : Option Addr) (n c : Nat) (l : List En) (d : List UInt8) (w : World) (hr : KRd kEn w A n c l) (hg : ∀ p ∈ l, p.good) (hz : n * 56 ≤ 140737488351232) :
    Calls Try.prog 5 #[.slice A n c, .string (str d)] w fun e w' => e = .returned (.bool true) ∧ Below w.heap.size w w' := by
  obtain rfl := hr.len
  have hcap := hr.cap
  unfold maxLen at hcap
  have hmx : l.length ≤ maxLen := by unfold maxLen; omega
  obtain ⟨er, L, hE⟩ : ∃ er L, xDrop l d = (er, L) := ⟨_, _, rfl⟩
  have h1 : ∀ W : World, Below w.heap.size w W → Calls Try.prog 18 #[.slice A l.length c, .string (str d)] W (GivesEs L er W) := fun W hW => by
    have := idrop_any A _ c l d W (hr.below hW) hg
    rwa [hE] at this
  have h2 : ∀ W : World, Below w.heap.size w W → Calls Try.prog 20 #[.slice A l.length c, .string (str d)] W (GivesEs L er W) := fun W hW => by
    have := entriesDrop_any A _ c l d W (hr.below hW) hg
    rwa [hE] at this
  have H1 := Lib.hid h1
  have H2 := Lib.hid h2
  have HG := Lib.hid hg
  have q2 : (er == er) = true := by simp
  have hf := ifind_any A _ c l d w hr
  have hK2 := xAt_le l d
  have key : (xFErr l d = 0 ∧ xFAt l d = xAt l d) ∨ (xFErr l d = 5 ∧ xFAt l d = 0 ∧ xAt l d = l.length) := by
    unfold xFErr xFAt
    by_cases h : xAt l d < l.length
    · exact .inl ⟨if_pos h, if_pos h⟩
    · exact .inr ⟨if_neg h, if_neg h, by omega⟩
  have HAt : Hid (∀ W : World, Below w.heap.size w W → Calls Try.prog 19 #[.slice A l.length c, .string (str d)] W fun e w' => e = .returned (.int .i64 (xAt l d : Int)) ∧ W = w') := fun W hW => entryAt_any A _ c l d W (hr.below hW)
  generalize xFErr l d = fe at *
  generalize xFAt l d = fa at *
  generalize xAt l d = K at *
  have HF := Lib.hid hf
  have HCP : Hid (∀ W : World, Below w.heap.size w W → Calls Try.prog 17 #[.slice A l.length c] W (GivesCE l W)) := fun W hW => icopy_any A _ c l W (hr.below hW) hg hz
  clear h1 h2 hE hf hg
  rcases key with ⟨rfl, rfl⟩ | ⟨rfl, rfl, rfl⟩
  · have q3 : ((fa : Int) == (fa : Int)) = true := by simp
    go_enter Try.func5, Try.ntmps5
    go_wp2_with fail
    with_reducible refine HF.out.mono ?_
    rintro e w1 ⟨rfl, hb1⟩
    go_wp2_with fail
    with_reducible refine (HCP.out _ hb1).mono ?_
    rintro e w2 ⟨g2, hs2, rfl, hmap2, hkb2, hb2⟩
    have hN2 := (hkb2.new hmap2 hmx).rd
    have hbB := below_step hb1 hb2
    clear hkb2 hmap2 hb1 hb2
    go_wp2_with fail
    with_reducible refine (H1.out _ hbB).mono ?_
    rintro e w3 ⟨A3, n3, c3, rfl, hN3, hb3⟩
    have hbC := below_step hbB hb3
    have r2 := hN2.below hb3
    have r3 := hN3.rd
    clear hN2 hN3 hb3 hbB
    go_wp2_with fail
    with_reducible refine (HAt.out _ hbC).mono ?_
    rintro e w4 ⟨rfl, rfl⟩
    go_wp2_with fail
    with_reducible refine (H2.out _ hbC).mono ?_
    rintro e w5 ⟨A5, n5, c5, rfl, hN5, hb5⟩
    have hbD := below_step hbC hb5
    have s2 := r2.below hb5
    have s3 := r3.below hb5
    have s5 := hN5.rd
    have s0 := hr.below hbD
    clear r2 r3 hN5 hb5 hbC
    go_wp2_with fail
    with_reducible refine (sameEntries_eq _ _ _ _ _ _ _ _ s2 s0).mono ?_
    rintro e w6 ⟨rfl, hb6⟩
    go_wp2_with fail
    with_reducible refine (sameEntries_eq _ _ _ _ _ _ _ _ (s3.below hb6) (s5.below hb6)).mono ?_
    rintro e w7 ⟨rfl, hb7⟩
    go_wp2
    go_ret
    exact ⟨by simp, below_step (below_step hbD hb6) hb7⟩
  · have q3 : ((l.length : Int) == (l.length : Int)) = true := by simp
    go_enter Try.func5, Try.ntmps5
    go_wp2_with fail
    with_reducible refine HF.out.mono ?_
    rintro e w1 ⟨rfl, hb1⟩
    go_wp2_with fail
    with_reducible refine (HCP.out _ hb1).mono ?_
    rintro e w2 ⟨g2, hs2, rfl, hmap2, hkb2, hb2⟩
    have hN2 := (hkb2.new hmap2 hmx).rd
    have hbB := below_step hb1 hb2
    clear hkb2 hmap2 hb1 hb2
    go_wp2_with fail
    with_reducible refine (H1.out _ hbB).mono ?_
    rintro e w3 ⟨A3, n3, c3, rfl, hN3, hb3⟩
    have hbC := below_step hbB hb3
    have r2 := hN2.below hb3
    have r3 := hN3.rd
    clear hN2 hN3 hb3 hbB
    go_wp2_with fail
    with_reducible refine (HAt.out _ hbC).mono ?_
    rintro e w4 ⟨rfl, rfl⟩
    go_wp2_with fail
    with_reducible refine (H2.out _ hbC).mono ?_
    rintro e w5 ⟨A5, n5, c5, rfl, hN5, hb5⟩
    have hbD := below_step hbC hb5
    have s2 := r2.below hb5
    have s3 := r3.below hb5
    have s5 := hN5.rd
    have s0 := hr.below hbD
    clear r2 r3 hN5 hb5 hbC
    go_wp2_with fail
    with_reducible refine (sameEntries_eq _ _ _ _ _ _ _ _ s2 s0).mono ?_
    rintro e w6 ⟨rfl, hb6⟩
    go_wp2_with fail
    with_reducible refine (sameEntries_eq _ _ _ _ _ _ _ _ (s3.below hb6) (s5.below hb6)).mono ?_
    rintro e w7 ⟨rfl, hb7⟩
    go_wp2
    go_ret
    exact ⟨by simp, below_step (below_step hbD hb6) hb7⟩
end Go.Proofs.Ytfleegidlncmjaa
