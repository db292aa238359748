/- The law BlobHeld: the walk. -/
import Derived.Test.YtbnjbjdkajjfdaaDoorGU
import Derived.Test.YtbnjbjdkajjfdaaDoorGU
import Derived.Test.YtbnjbjdkajjfdaaDoorGU
namespace Go.Proofs.YtbnjbjdkajjfdaaDoor
open Go.RowKit
set_option maxRecDepth 100000 in
set_option maxHeartbeats 2000000 in
theorem blobHeld_walk (A : Option Addr) (n c : Nat) (l : List Rw) (w : World) (hK : Kon w) (hr : Rd w 4 A n c (rcs l)) (hg : ∀ p ∈ l, p.good) (hn : n ≤ 4294967296000) :
    Calls Tryd.prog 7 #[.slice A n c] w fun e w' => e = .returned (.bool true) ∧ Below w.heap.size w w' := by
  have hfd := store_field
  go_enter Tryd.func7, Tryd.ntmps7
  go_wp2_with fail
  with_reducible refine (store_blobs _ _ _ _ _ hr hg hn).mono ?_
  rintro e w1 ⟨A1, c1, L, A2, n2, c2, vr, vk, rfl, hN1, hS, hb1⟩
  have hL := hS.len
  have r1 := hN1.rd
  have HS := Lib.hid hS
  clear hN1 hr hg hS
  go_wp2_with fail
  go_loopw [5, 6, 7, 13] (fun _ _ _ i wr => ∃ (k : Nat), k ≤ L.length ∧ i = .int .i64 k ∧ Below w1.heap.size w1 wr) (fun _ _ _ i _ => L.length - (intOf i).toNat)
  case atStart => exact ⟨0, Nat.zero_le _, rfl, Below.refl _ _⟩
  case round =>
    obtain ⟨k, hk, rfl, hbel⟩ := hrel
    by_cases hlt : k < L.length
    · have rk := r1.below hbel
      have hKk := (hK.below hb1).below hbel
      obtain ⟨b, off, D, dn, dc, rfl, hc0, hc1, hc2, hc3, -, -⟩ := rk.blob hlt
      have hki : (k : Int) < (L.length : Int) := by omega
      have hpn := (HS.out.fine L[k] (List.getElem_mem hlt)).2.2.2.1
      have hal := (Below.refl wr.heap.size wr).alloc (Nat.le_refl _) (.cells #[.string (str L[k].dg), .slice D dn dc, .int .i64 L[k].pn, .bool L[k].mr] 24)
      have hbk := Blk.new wr 24 [.string (str L[k].dg), .slice D dn dc, .int .i64 L[k].pn, .bool L[k].mr]
      have hdrop := drop_any _ _ _ L L[k].dg _ (hKk.below hal) (rk.below hal) HS.out.good
      by_cases hp : 0 < L[k].pn
      · rw [bDrop_held HS.out.err HS.out.srt hlt hp] at hdrop
        have HD := Lib.hid hdrop
        have q1 : decide (0 < L[k].pn) = true := by simpa using hp
        have q2 : (L[k].pn == 0) = false := by rw [beq_eq_false_iff_ne]; omega
        clear hdrop
        generalize L[k] = x at *
        have e0 := hbk.cell 0
        simp only [List.getElem?_cons_zero] at e0
        go_wp2_with fail
        with_reducible refine HD.out.mono ?_
        rintro e w3 ⟨A3, n3, c3, rfl, hN3, hb3⟩
        obtain rfl : n3 = 0 := hN3.rd.len
        have hbk3 := hbk.below hb3 hbk.lt
        have hbE := below_step hbel (below_step hal hb3)
        clear e0 hc0 hc1 hc2 hc3 hN3 hbk hal
        have e0 := hbk3.cell 0
        have e2 := hbk3.cell 2
        simp only [List.getElem?_cons_succ, List.getElem?_cons_zero] at e0 e2
        go_wp2
        go_roundw
        case rel => exact ⟨k + 1, by omega, by go_num, hbE⟩
        case measure => simp [intOf] <;> omega
      · rw [bDrop_free HS.out.err HS.out.srt hlt hp] at hdrop
        have hE : Hid ((L.eraseIdx k).any (fun x => x.dg == L[k].dg) = false) := erased_any HS.out.srt hlt
        have hlE : (L.eraseIdx k).length = L.length - 1 := List.length_eraseIdx_of_lt hlt
        have hp0 : L[k].pn = 0 := by omega
        have HD := Lib.hid hdrop
        have HLE := Lib.hid hlE
        have q1 : decide (0 < L[k].pn) = false := by simpa using hp
        have q2 : (L[k].pn == 0) = true := by rw [beq_iff_eq]; exact hp0
        clear hdrop hp hp0 hlE
        generalize L.eraseIdx k = E at *
        generalize L[k] = x at *
        have e0 := hbk.cell 0
        simp only [List.getElem?_cons_zero] at e0
        go_wp2_with fail
        with_reducible refine HD.out.mono ?_
        rintro e w3 ⟨A3, n3, c3, rfl, hN3, hb3⟩
        have r3 := hN3.rd
        have hn3 : n3 = L.length - 1 := by rw [r3.len]; exact HLE.out
        subst hn3
        have hbk3 := hbk.below hb3 hbk.lt
        have hbE := below_step hbel (below_step hal hb3)
        have hsub : (L.length : Int) - 1 = ((L.length - 1 : Nat) : Int) := by omega
        have q3 : (((L.length - 1 : Nat) : Int) != ((L.length - 1 : Nat) : Int)) = false := by simp
        clear e0 hc0 hc1 hc2 hc3 hN3 hbk hal
        have e0 := hbk3.cell 0
        have e2 := hbk3.cell 2
        simp only [List.getElem?_cons_succ, List.getElem?_cons_zero] at e0 e2
        go_wp2_with fail
        with_reducible refine (has_any _ _ _ _ _ _ r3 false hE.out).mono ?_
        rintro e w4 ⟨rfl, hb4⟩
        have hbF := below_step hbE hb4
        go_wp2
        go_roundw
        case rel => exact ⟨k + 1, by omega, by go_num, hbF⟩
        case measure => simp [intOf] <;> omega
    · have hd2 : decide ((k : Int) < (L.length : Int)) = false := by simp; omega
      have hbZ := below_step hb1 hbel
      go_wp2_with fail
      with_reducible refine (stored_ok _ (hK.below hbZ)).mono ?_
      rintro e w3 ⟨rfl, hb3⟩
      go_wp2
      go_ret
      exact ⟨rfl, below_step hbZ hb3⟩
end Go.Proofs.YtbnjbjdkajjfdaaDoor
