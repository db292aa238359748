/- The reference's MarkedAll. -/
import Derived.Test.YtlelodomegnboaaGRC
import Derived.Test.YtlelodomegnboaaGMA
import Derived.Test.YtlelodomegnboaaGR
import Derived.Deep.RegionLaw
namespace Go.Proofs.Ytlelodomegnboaa
open Go.RowKit
theorem rd_belowT {w w' : World} {size n c : Nat} {A : Option Addr} {xs : List Value} {base : Nat} (h : Rd w size A n c xs) (hb : Below base w w') (hA : ∀ a : Addr, A = some a → a.block < base) : Rd w' size A n c xs :=
  h.keepLt fun a e _ => hb.block a.block (hA a e)
set_option maxRecDepth 100000 in
set_option maxHeartbeats 4000000 in
theorem rMAll_any (A : Option Addr) (n c : Nat) (l : List Bl) (B : Option Addr) (m q : Nat) (ds : List (List UInt8)) (w : World) (hr : KRd kBl w A n c l) (hz : n * 56 ≤ 140737488351232) (hg : ∀ p ∈ l, p.good) (hs : Rd w 1 B m q (ds.map sv)) :
    Calls Try.prog 6 #[.slice A n c, .slice B m q] w fun e w' => ∃ v, e = .returned v ∧ KOwn kBl w' w.heap.size 38 v (mAll l ds) ∧ Below w.heap.size w w' := by
  obtain rfl := hr.len
  have hcap := hr.cap
  unfold maxLen at hcap
  have HC := Lib.hid (blobsCopy_any A l.length c l w hr hg hz)
  have HF := Lib.hid (fun (W : World) (hb : Below w.heap.size w W) => reachFrom_any A l.length c l B m q ds W (hr.below hb) hz (hs.below hb))
  have HAT := Lib.hid (fun (W : World) (d : List UInt8) (hb : Below w.heap.size w W) => blobAt_any A l.length c l d W (hr.below hb))
  have HVB : Hid (∀ d ∈ ris (rFrom l pOf ds), bAt l d < l.length) := fun d hd => by
    have hr : Rch l pOf ds d := (rFrom_rch _ _).1 (ris_mem.1 hd)
    cases hr with
    | here _ h => exact h
    | next _ _ h => exact h
  have HX : Hid (mAll l ds = mFr (ris (rFrom l pOf ds)) l) := rfl
  generalize ris (rFrom l pOf ds) = V at *
  generalize mAll l ds = X at *
  clear hr hs hg
  go_enter Try.func6, Try.ntmps6
  go_wp2_with fail
  with_reducible refine HC.out.mono ?_
  rintro e w1 ⟨v1, rfl, hO1, hb1⟩
  obtain ⟨A1, c1, rfl, hN1⟩ := hO1.new
  obtain ⟨_, -, -, -, hF1, -⟩ := hN1
  go_wp2_with fail
  with_reducible refine (HF.out _ hb1).mono ?_
  rintro e w2 ⟨v2, rfl, hown2, hb2⟩
  obtain ⟨A2, c2, rfl, hr2, hA2, hF2⟩ := own_rdK hown2
  have hO2 := hO1.below hb2
  have hbB := below_step hb1 hb2
  have hup : ∀ g, A1 = some ⟨g, 0, none⟩ → g < w1.heap.size := fun g e => (hF1 _ e).2
  have hz1 := hb2.size
  have hV16 := hr2.2.2.1
  have hVc := hr2.2.1
  unfold maxLen at hV16
  clear hO1 hown2 HC HF
  go_wp2_with fail
  go_loopw [14] (fun s wr => ∃ i : Nat, i ≤ V.length ∧ s = .int .i64 i ∧ KOwn kBl wr w.heap.size 38 (.slice A1 l.length c1) (mFr (V.take i) l) ∧ Rd wr 1 A2 V.length c2 (V.map sv) ∧ Below w.heap.size w wr) (fun s _ => V.length - (intOf s).toNat)
  case atStart => exact ⟨0, Nat.zero_le _, rfl, by rw [List.take_zero, mFr_nil]; exact hO2, hr2, hbB⟩
  case round =>
    clear hO2 hr2 hbB hb1 hb2
    obtain ⟨i, hi, rfl, hO, hrV, hbel⟩ := hrel
    by_cases hlt : i < V.length
    · obtain ⟨b1, off1, rfl, hd0⟩ := hrV.text hlt
      have hii : (i : Int) < (V.length : Int) := by omega
      have hvb := HVB.out _ (List.getElem_mem hlt)
      have hst := mFr_step hlt hvb
      have hol := mFr_len (V.take i) l
      have hat := HAT.out wr V[i] hbel
      generalize V[i] = d at *
      obtain ⟨K, hK⟩ : ∃ K, bAt l d = K := ⟨_, rfl⟩
      rw [hK] at hvb hst hat
      have HA := Lib.hid hat
      have hKL : K < (mFr (V.take i) l).length := by omega
      have hKi : (K : Int) < (l.length : Int) := by omega
      have hbd := Below.refl wr.heap.size wr
      have hOd := hO.below hbd
      obtain ⟨g, c', qw, hgB, hgl, hcl, hfr, hO7⟩ := hOd.markB hKL true
      injection qw with q1 q3 q2
      subst q1; subst q2
      clear q3
      rw [hst] at hO7
      have hbel3 := hbel.setCell (p := ⟨g, K * 4 + 3, none⟩) hgB (.bool true)
      have hne : b1 ≠ g := by
        have h1 := (hF2 _ rfl).1
        have h2 := hup g rfl
        show b1 ≠ g
        have h3 : w1.heap.size ≤ b1 := h1
        omega
      have hr3 := (hrV.below hbd).keepLt (w' := wr.setCell ⟨g, K * 4 + 3, none⟩ (.bool true)) fun a e _ => Below.heap_setCell wr ⟨g, K * 4 + 3, none⟩ _ a.block (by injection e with e; subst e; exact hne)
      clear hat hst hK hrV hO hbel hOd hbd hol hvb
      go_wp2_with fail
      with_reducible refine HA.out.mono ?_
      rintro e w4 ⟨rfl, rfl⟩
      go_wp2
      go_roundw
      case rel => exact ⟨i + 1, by omega, by go_num, hO7, hr3, hbel3⟩
      case measure => simp [intOf] <;> omega
    · have hd2 : decide ((i : Int) < (V.length : Int)) = false := by rw [decide_eq_false_iff_not]; omega
      rw [List.take_of_length_le (by omega)] at hO
      go_wp2
      go_ret
      rw [HX.out]
      exact ⟨_, rfl, hO, hbel⟩
end Go.Proofs.Ytlelodomegnboaa
