/- A manifest's bytes: the reference's PartsBytes. -/
import Derived.Test.YtaaeihkbnfcolaaPf
import Derived.Test.YtaaeihkbnfcolaaNr
import Derived.Laws.Concat
namespace Go.Proofs.Ytaaeihkbnfcolaa
open Go.RowKit
theorem utf8_small (n : Nat) (h : n < 128) : Utf8.encode (n : Int) = str [UInt8.ofNat n] := by
  have : ∀ k : Fin 128, (Utf8.encode (k.val : Int)).data = (str [UInt8.ofNat k.val]).data := by decide +kernel
  exact ByteArray.ext (this ⟨n, h⟩)
@[go_sem] theorem str_app (a b : List UInt8) : str a ++ str b = str (a ++ b) := by
  apply ByteArray.ext
  simp [str, ByteArray.data_append]
@[go_sem high] theorem fold_am1 : (⟨#[65, 77, 49]⟩ : ByteArray) = str [65, 77, 49] := rfl
/-- the bytes of one part, of parts, of a manifest -/
def mB (p : Prt) : List UInt8 := enc p.nm.length ++ p.nm ++ unh p.dg ++ enc p.sz.toNat
def mBs (l : List Prt) : List UInt8 := l.flatMap mB
def man (l : List Prt) : List UInt8 := [65, 77, 49] ++ enc l.length ++ mBs l
theorem mBs_step {l : List Prt} {k : Nat} (h : k < l.length) : mBs (l.take (k + 1)) = mBs (l.take k) ++ mB l[k] := by
  unfold mBs; rw [List.take_succ_eq_append_getElem h, List.flatMap_append]; simp
/-- what is known of a part that has passed -/
def Prt.fine (p : Prt) : Prop := nmErr p.nm = 0 ∧ 1 ≤ p.nm.length ∧ p.nm.length ≤ 12 ∧ p.dg.length = 64 ∧ p.dg.all isD = true ∧ 0 ≤ p.sz ∧ p.sz ≤ 300
theorem cErr_zero {m : List UInt8} (h : cErr m = 0) : m.length = 64 ∧ m.all isD = true := by
  unfold cErr at h
  split at h
  · omega
  · split at h
    · rename_i h1 h2; exact ⟨by omega, h2⟩
    · omega
theorem pErr_zero : ∀ (l : List Prt) (last : List UInt8), pErr last l = 0 → ∀ p ∈ l, p.fine
  | [], _, _, p, hp => by cases hp
  | q :: r, last, h, p, hp => by
    rw [pErr] at h
    split at h
    · rename_i h1; exact absurd h h1
    · rename_i h1
      split at h
      · omega
      · split at h
        · rename_i h2; exact absurd h h2
        · rename_i h2
          split at h
          · omega
          · rename_i h3
            have hq : q.fine := by
              have h1' : nmErr q.nm = 0 := by omega
              have h2' := cErr_zero (m := q.dg) (by omega)
              rcases nmErr_cases q.nm with h4 | h4 | ⟨_, h4, h5⟩
              · omega
              · omega
              · exact ⟨h1', h4, h5, h2'.1, h2'.2, by omega, by omega⟩
            rcases List.mem_cons.1 hp with rfl | hp
            · exact hq
            · exact pErr_zero r q.nm h p hp
theorem psErr_zero {l : List Prt} (h : psErr l = 0) : l.length ≤ 8 ∧ ∀ p ∈ l, p.fine := by
  unfold psErr at h
  split at h
  · omega
  · exact ⟨by omega, pErr_zero l [] h⟩
set_option maxHeartbeats 400000 in
theorem partsBytes_no (A : Option Addr) (n c : Nat) (l : List Prt) (w : World) (hr : Rd w 3 A n c (pcs l)) (hg : ∀ p ∈ l, p.good) (hne : psErr l ≠ 0) :
    Calls Try.prog 16 #[.slice A n c] w fun e w' => e = .returned (.tuple #[.slice none 0 0, .int .i64 (psErr l)]) ∧ Below w.heap.size w w' := by
  have hd : (psErr l != 0) = true := by rw [bne_iff_ne]; exact hne
  go_enter Try.func16, Try.ntmps16
  go_wp2_with fail
  with_reducible refine (partsFault_any _ _ _ _ _ hr hg).mono ?_
  rintro e w1 ⟨rfl, hb1⟩
  go_wp2
  go_ret2
  exact ⟨rfl, hb1⟩
set_option maxRecDepth 100000 in
set_option maxHeartbeats 2000000 in
theorem partsBytes_ok (A : Option Addr) (n c : Nat) (l : List Prt) (w : World) (hr : Rd w 3 A n c (pcs l)) (hg : ∀ p ∈ l, p.good) (h0 : psErr l = 0) :
    Calls Try.prog 16 #[.slice A n c] w (GivesB (man l) 0 w) := by
  obtain rfl := hr.plen
  have hd : (psErr l != 0) = false := by rw [bne_eq_false_iff_eq]; exact h0
  obtain ⟨h8, hfine⟩ := psErr_zero h0
  have HF := Lib.hid hfine
  have hu := utf8_small l.length (by omega)
  clear h0 hfine
  go_enter Try.func16, Try.ntmps16
  go_wp2_with fail
  with_reducible refine (partsFault_any _ _ _ _ _ hr hg).mono ?_
  rintro e w1 ⟨rfl, hb1⟩
  have hr1 := hr.below hb1
  clear hg
  have HM : Hid (man l = [65, 77, 49, UInt8.ofNat l.length] ++ mBs l) := by show _ = _; unfold man; rw [enc_small (by omega)]; rfl
  go_wp2
  go_loopw [5, 7, 8, 9, 10, 11, 24] (fun s _ _ _ _ _ i wr => ∃ (k : Nat) (m : List UInt8), k ≤ l.length ∧ i = .int .i64 k ∧ s = .string (str m) ∧ Hid (m = [65, 77, 49, UInt8.ofNat l.length] ++ mBs (l.take k)) ∧ m.length ≤ 4 + 60 * k ∧ Below w.heap.size w wr) (fun _ _ _ _ _ _ i _ => l.length - (intOf i).toNat)
  case atStart => exact ⟨0, [65, 77, 49, UInt8.ofNat l.length], Nat.zero_le _, rfl, rfl, rfl, by simp, hb1⟩
  case round =>
    clear hb1 hr1
    obtain ⟨k, m, hk, rfl, rfl, HE, hml, hbel⟩ := hrel
    by_cases hlt : k < l.length
    · obtain ⟨b, off, rfl, hc0, hc1, hc2⟩ := (hr.below hbel).part hlt
      obtain ⟨_, f1, f2, f3, f4, f5, f6⟩ := HF.out l[k] (List.getElem_mem hlt)
      have HS := Lib.hid (mBs_step hlt)
      have hki : (k : Int) < (l.length : Int) := by omega
      generalize l[k] = p at *
      obtain ⟨nm, dg, sz⟩ := p
      obtain ⟨z, rfl⟩ : ∃ z : Nat, sz = (z : Int) := ⟨sz.toNat, by simp at f5; omega⟩
      simp only at f1 f2 f3 f4 f5 f6 hc0 hc1 hc2
      have hal := (Below.refl wr.heap.size wr).alloc (Nat.le_refl _) (.cells #[.string (str nm), .string (str dg), .int .i64 (z : Int)] 39)
      have hbk := Blk.new wr 39 [.string (str nm), .string (str dg), .int .i64 (z : Int)]
      have hee := hErr_ok (l := dg) (by omega) (by omega) f4
      have HH := Lib.hid hee
      have HU : Hid ((unh dg).length = 32) := by show _ = _; rw [unh_length, f3]
      have hun := utf8_small nm.length (by omega)
      have h5 := enc_len5 (n := z) (by omega)
      have hul : (unh dg).length ≤ 32 := Nat.le_of_eq HU.out
      have hdm : dg.length ≤ maxLen := by unfold maxLen; omega
      clear hee f4 f3
      go_wp2_with fail
      with_reducible refine (rbytes_all _ _ hdm).mono ?_
      rintro e w2 ⟨A2, n2, c2, rfl, hr2, hb2⟩
      rw [HH.out.1]
      rw [HH.out.2] at hr2
      have hn2 : n2 = (unh dg).length := hr2.len
      subst hn2
      have hbk2 := hbk.below hb2 hbk.lt
      have hbA := below_step hbel (hal.trans (hb2.mono (by simp)))
      have e0 : w2.cell? ⟨wr.heap.size, 0, none⟩ = some (.string (str nm)) := hbk2.cell 0
      have e2 : w2.cell? ⟨wr.heap.size, 2, none⟩ = some (.int .i64 (z : Int)) := hbk2.cell 2
      clear hbk hal hc0 hc1 hc2
      go_wp2_with fail
      with_reducible refine (rnumber_ok z _ (by omega)).mono ?_
      rintro e w3 ⟨v3, rfl, hown3, hb3⟩
      obtain ⟨A3, c3, rfl, hr3⟩ := own_rd hown3
      have hbB := below_step hbA hb3
      have d0 : w3.cell? ⟨wr.heap.size, 0, none⟩ = some (.string (str nm)) := (hb3.cell (p := ⟨wr.heap.size, 0, none⟩) hbk2.lt).trans e0
      have k1 := run_bytes_str (P := Try.prog) Try.underlying27 Try.underlying5 Try.underlying9 (hr2.below hb3)
      have k2 := run_bytes_str (P := Try.prog) Try.underlying27 Try.underlying5 Try.underlying9 hr3
      clear e0 e2 hown3 hbk2 hbA
      go_wp2
      go_roundw
      case rel =>
        refine ⟨k + 1, _, by omega, by go_num, rfl, ?_, ?_, hbB⟩
        · show _ = _
          rw [HE.out, HS.out]
          simp [mB, enc_small (show nm.length < 128 by omega)]
        · have := HU.out
          simp
          omega
      case measure => simp [intOf] <;> omega
    · have hd2 : decide ((k : Int) < (l.length : Int)) = false := by simp; omega
      have HX : Hid (m = man l) := by show _ = _; rw [HM.out, HE.out, List.take_of_length_le (by omega)]
      obtain ⟨c9, w9, hcv, hr9, hb9, hs9⟩ := run_str_bytes (P := Try.prog) Try.underlying9 Try.underlying27 Try.underlying5 wr m (by unfold maxLen; omega)
      clear hs9
      go_wp2
      go_ret2
      rw [← HX.out]
      exact ⟨_, _, _, rfl, hr9, below_step hbel hb9⟩
/-- the bytes and the error, whatever the parts -/
def mRes (l : List Prt) : List UInt8 := if psErr l = 0 then man l else []
theorem partsBytes_any (A : Option Addr) (n c : Nat) (l : List Prt) (w : World) (hr : Rd w 3 A n c (pcs l)) (hg : ∀ p ∈ l, p.good) :
    Calls Try.prog 16 #[.slice A n c] w (GivesB (mRes l) (psErr l) w) := by
  by_cases h : psErr l = 0
  · rw [show mRes l = man l from if_pos h, h]
    exact partsBytes_ok A n c l w hr hg h
  · rw [show mRes l = [] from if_neg h]
    refine (partsBytes_no A n c l w hr hg h).mono ?_
    rintro e w' ⟨rfl, hb⟩
    exact ⟨none, 0, 0, rfl, Rd.nil _ _, hb⟩
end Go.Proofs.Ytaaeihkbnfcolaa
