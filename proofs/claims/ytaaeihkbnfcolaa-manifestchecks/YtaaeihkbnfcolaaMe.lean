/- The program's encodePart and Encode. -/
import Derived.Test.YtaaeihkbnfcolaaMa
import Derived.Test.YtaaeihkbnfcolaaPb
import Derived.Test.YtaaeihkbnfcolaaTp
import Derived.Test.YtaaeihkbnfcolaaApf
import Derived.Test.YtaaeihkbnfcolaaMp
namespace Go.Proofs.Ytaaeihkbnfcolaa
open Go.RowKit
set_option maxRecDepth 100000 in
set_option maxHeartbeats 1000000 in
theorem encodePart_ok (nm dg : List UInt8) (z : Nat) (w : World) (h1 : nm.length ≤ 12) (h2 : dg.length = 64) (h3 : dg.all isD = true) (h4 : z ≤ 300) :
    Calls Try.prog 32 #[.agg #[.string (str nm), .string (str dg), .int .i64 z]] w (GivesO 5 (mB ⟨nm, dg, z⟩) w) := by
  obtain ⟨i0, hi0, hz0, hz1, hz2⟩ := info_parts u8_info
  have HM : Hid (mB ⟨nm, dg, z⟩ = txt nm ++ unh dg ++ enc z) := by show _ = _; unfold mB txt; simp
  have hU : (unh dg).length = 32 := by rw [unh_length, h2]
  have h5 := enc_len5 (n := z) (by omega)
  have h6 : (txt nm).length ≤ 17 := by have := enc_len5 (n := nm.length) (by omega); unfold txt; rw [List.length_append]; omega
  have hal := (Below.refl w.heap.size w).alloc (Nat.le_refl _) (.cells #[.string (str nm), .string (str dg), .int .i64 z] 39)
  have hbk := Blk.new w 39 [.string (str nm), .string (str dg), .int .i64 z]
  have e0 := hbk.cell 0
  simp only [List.getElem?_cons_zero] at e0
  go_enter Try.func32, Try.ntmps32
  go_wp2_with fail
  with_reducible refine (text_ok _ _ (by omega)).mono ?_
  rintro e w1 ⟨v1, rfl, hown1, hb1⟩
  have hbk1 := hbk.below hb1 hbk.lt
  have hlt1 := Lib.hid hown1.lt
  have hsz0 : w.heap.size ≤ (w.alloc (.cells [Value.string (str nm), .string (str dg), .int .i64 z].toArray 39)).heap.size := by simp
  have hown1' := own_base hown1 hsz0
  have hbA := hal.trans (hb1.mono (by simp))
  have e1 := hbk1.cell 1
  simp only [List.getElem?_cons_succ, List.getElem?_cons_zero] at e1
  clear e0 hown1 hbk hal
  go_wp2_with fail
  with_reducible refine (hbytes_ok _ _ (by omega) (by omega) h3).mono ?_
  rintro e w2 ⟨g2, rfl, hblk2, hb2⟩
  rw [show dg.length / 2 = 32 by omega]
  have hbk2 := hbk1.below hb2 hbk1.lt
  have hown2 := own_below hown1' hb2
  have hbB := below_step hbA hb2
  have e2 := hbk2.cell 2
  simp only [List.getElem?_cons_succ, List.getElem?_cons_zero] at e2
  have hr2 := blk_rd hblk2 (n := 32) (by rw [List.length_map, hU]) (by omega)
  clear e1 hblk2 hbk1 hbA hown1' h2
  go_wp2_with fail
  with_reducible refine (number_ok z _ (by omega)).mono ?_
  rintro e w3 ⟨v3, rfl, hown3, hb3⟩
  obtain ⟨A3, c3, rfl, hr3, hA3, hF3⟩ := own_rdF hown3
  have hr2' := hr2.below hb3
  have hown2' := own_below hown2 hb3
  have hbC := below_step hbB hb3
  have HF3 : Hid (∀ a : Addr, A3 = some a → v1.ownBlock ≠ some a.block) := fun a q k => by
    have q1 := hF3 a q
    have q2 := (hlt1.out _ k).2
    have q3 := hb2.size
    omega
  clear e2 hown3 hbk2 hbB hown2 hr2 hF3 hb1 hb2 hb3
  have hsz3 := hbC.size
  have hN : (txt nm).length + 32 + (enc z).length = (mB ⟨nm, dg, z⟩).length := by rw [HM.out, List.length_append, List.length_append, hU]
  have HN := Lib.hid hN
  clear hN hU
  go_wp2_with (at_builtin; first
    | (refine wpList_appendM rfl (.tmp 35) (.tmp 36) _ rfl Try.underlying27 hi0 hz0 hz1 hz2 rfl (by omega) _ _ _ rfl hown2' hr2' (fun q => by cases q) (bytes_one _) rfl (by omega) (by unfold maxLen; omega) hsz3 ?_; rintro v4 w4 q4; have hr4 := hr3.appM q4 HF3.out; obtain ⟨hown4, hb4, hs4, -⟩ := q4; have hbD := hbC.trans hb4)
    | (refine wpList_appendM rfl (.tmp 37) (.tmp 38) _ rfl Try.underlying27 hi0 hz0 hz1 hz2 rfl (by omega) _ _ _ rfl hown4 hr4 hA3 (bytes_one _) rfl (by omega) (by unfold maxLen; omega) hbD.size ?_; rintro v5 w5 q5; obtain ⟨hown5, hb5, hs5, -⟩ := q5))
  go_ret2
  rw [← List.map_append, ← List.map_append, ← HM.out, HN.out] at hown5
  exact ⟨_, rfl, hown5, hbD.trans hb5⟩
set_option maxHeartbeats 400000 in
theorem mencode_no (A : Option Addr) (n c : Nat) (l : List Prt) (w : World) (hr : Rd w 3 A n c (pcs l)) (hg : ∀ p ∈ l, p.good) (hne : psErr l ≠ 0) :
    Calls Try.prog 15 #[.slice A n c] w fun e w' => e = .returned (.tuple #[.slice none 0 0, .int .i64 (psErr l)]) ∧ Below w.heap.size w w' := by
  have hd : (psErr l != 0) = true := by rw [bne_iff_ne]; exact hne
  go_enter Try.func15, Try.ntmps15
  go_wp2_with fail
  with_reducible refine (mcheck_any _ _ _ _ _ hr hg).mono ?_
  rintro e w1 ⟨rfl, hb1⟩
  go_wp2
  go_ret2
  exact ⟨rfl, hb1⟩
set_option maxRecDepth 100000 in
set_option maxHeartbeats 2000000 in
theorem mencode_yes (A : Option Addr) (n c : Nat) (l : List Prt) (w : World) (hr : Rd w 3 A n c (pcs l)) (hg : ∀ p ∈ l, p.good) (h0 : psErr l = 0) :
    Calls Try.prog 15 #[.slice A n c] w (GivesB (man l) 0 w) := by
  obtain rfl := hr.plen
  obtain ⟨i0, hi0, hz0, hz1, hz2⟩ := info_parts u8_info
  have hd : (psErr l != 0) = false := by rw [bne_eq_false_iff_eq]; exact h0
  obtain ⟨h8, hfine⟩ := psErr_zero h0
  have HF := Lib.hid hfine
  have h5 := enc_len5 (n := l.length) (by omega)
  clear h0 hfine
  go_enter Try.func15, Try.ntmps15
  go_wp2_with fail
  with_reducible refine (mcheck_any _ _ _ _ _ hr hg).mono ?_
  rintro e w1 ⟨rfl, hb1⟩
  clear hg
  go_wp2_with fail
  with_reducible refine (number_ok l.length _ (by omega)).mono ?_
  rintro e w2 ⟨v2, rfl, hown2, hb2⟩
  obtain ⟨A2, c2, rfl, hr2, hA2, hF2⟩ := own_rdF hown2
  have hbA := below_step hb1 hb2
  have hlt2 := Lib.hid hown2.lt
  have hrK := new_rd w2 5 [65, 77, 49] (3, 4) (by unfold maxLen; simp)
  have hK3 : ([65, 77, 49] : List UInt8).map bv8 = [.int .u8 65, .int .u8 77, .int .u8 49] := by simp [bv8, y8]
  have hK4 : ([65, 77, 49] : List UInt8).length = 3 := rfl
  rw [hK3, hK4] at hrK
  clear hK3 hK4
  have halH := (Below.refl w2.heap.size w2).alloc (Nat.le_refl _) (.cells #[.int .u8 65, .int .u8 77, .int .u8 49] 5 (3, 4))
  have hrH := hr2.below halH
  have hbH := below_step hbA halH
  have kc := fun (w : World) (C : Array Value) (n c : Nat) => Lib.run_convert_bytes_const (P := Try.prog) w 27 5 C n c Try.underlying27 Try.underlying5
  have hep := enc_pos l.length
  clear hown2 hr2 hb1 hb2 hF2
  go_wp2_with (at_builtin; refine wpList_appendG rfl (.tmp 27) (.tmp 28) _ rfl Try.underlying27 hi0 hz0 hz1 hz2 rfl (by omega) rfl hrK (fun q => by cases q) rfl hrH (bytes_one _) (by omega) (by unfold maxLen; omega) (by omega) ?_; rintro v3 w3 ⟨hown3, hb3⟩)
  have hown3 := own_base hown3 hbH.size
  have hbB := below_step hbH hb3
  have hx : [Value.int .u8 65, .int .u8 77, .int .u8 49] ++ (enc l.length).map bv8 = ([65, 77, 49] ++ enc l.length).map bv8 := by simp [bv8, y8]
  have hy : 3 + (enc l.length).length = ([65, 77, 49] ++ enc l.length).length := by simp; omega
  rw [hx, hy] at hown3
  have hz : ([65, 77, 49] ++ enc l.length).length ≤ 8 := by omega
  obtain ⟨hd0, hd0e⟩ : ∃ hd0 : List UInt8, [65, 77, 49] ++ enc l.length = hd0 := ⟨_, rfl⟩
  have Hd0 := Lib.hid hd0e
  clear hd0e
  rw [Hd0.out] at hown3 hz
  clear hx hy hrK hrH hbH hb3 halH hA2 h5 kc hep
  go_wp2
  go_loopw [7, 9, 10, 11, 32] (fun s _ _ _ i wr => ∃ (k : Nat) (m : List UInt8), k ≤ l.length ∧ i = .int .i64 k ∧ wr.ownsRow w.heap.size 5 1 s m.length (m.map bv8) ∧ Hid (m = hd0 ++ mBs (l.take k)) ∧ m.length ≤ 8 + 60 * k ∧ Below w.heap.size w wr) (fun _ _ _ _ i _ => l.length - (intOf i).toNat)
  case atStart => exact ⟨0, hd0, Nat.zero_le _, rfl, hown3, (by show _ = _; simp [mBs]), by omega, hbB⟩
  case round =>
    clear hown3 hbB hlt2 hbA
    obtain ⟨k, m, hk, rfl, hown, HE, hml, hbel⟩ := hrel
    by_cases hlt : k < l.length
    · obtain ⟨b, off, rfl, hc0, hc1, hc2⟩ := (hr.below hbel).part hlt
      have hfk := HF.out l[k] (List.getElem_mem hlt)
      have h60 := mB_length hfk
      obtain ⟨_, f1, f2, f3, f4, f5, f6⟩ := hfk
      have HS := Lib.hid (mBs_step hlt)
      have hki : (k : Int) < (l.length : Int) := by omega
      generalize l[k] = p at *
      obtain ⟨nm, dg, sz⟩ := p
      obtain ⟨z, rfl⟩ : ∃ z : Nat, sz = (z : Int) := ⟨sz.toNat, by simp at f5; omega⟩
      simp only at f1 f2 f3 f4 f5 f6 hc0 hc1 hc2
      have hal := (Below.refl wr.heap.size wr).alloc (Nat.le_refl _) (.cells #[.string (str nm), .string (str dg), .int .i64 (z : Int)] 39)
      have hbk := Blk.new wr 39 [.string (str nm), .string (str dg), .int .i64 (z : Int)]
      have hown' := own_below hown hal
      go_wp2_with fail
      with_reducible refine (encodePart_ok _ _ _ _ f2 f3 f4 (by omega)).mono ?_
      rintro e w4 ⟨v4, rfl, hown4, hb4⟩
      obtain ⟨A4, c4, rfl, hr4, hA4⟩ := own_rdN hown4
      have hownB := own_below hown' hb4
      have hbC := below_step hbel (hal.trans (hb4.mono (by simp)))
      clear hbk hal hc0 hc1 hc2 hown' hown4 hown
      generalize mB ⟨nm, dg, z⟩ = q at *
      go_wp2_with (at_builtin; refine wpList_appendM rfl (.tmp 44) (.tmp 45) _ rfl Try.underlying27 hi0 hz0 hz1 hz2 rfl (by omega) _ _ _ rfl hownB hr4 hA4 (bytes_one _) rfl (by omega) (by unfold maxLen; omega) hbC.size ?_; rintro v5 w5 ⟨hown5, hb5, hs5, -⟩)
      go_roundw
      case rel =>
        refine ⟨k + 1, m ++ q, by omega, by go_num, ?_, ?_, ?_, hbC.trans hb5⟩
        · rw [List.map_append, List.length_append]; exact hown5
        · show _ = _
          rw [HE.out, HS.out, List.append_assoc]
        · rw [List.length_append]; omega
      case measure => simp [intOf] <;> omega
    · have hd2 : decide ((k : Int) < (l.length : Int)) = false := by simp; omega
      have HX : Hid (m = man l) := by show _ = _; rw [HE.out, ← Hd0.out, List.take_of_length_le (by omega)]; rfl
      obtain ⟨A9, c9, rfl, hr9⟩ := own_rd hown
      go_wp2
      go_ret2
      rw [← HX.out]
      exact ⟨_, _, _, rfl, hr9, hbel⟩
theorem mencode_any (A : Option Addr) (n c : Nat) (l : List Prt) (w : World) (hr : Rd w 3 A n c (pcs l)) (hg : ∀ p ∈ l, p.good) :
    Calls Try.prog 15 #[.slice A n c] w (GivesB (mRes l) (psErr l) w) := by
  by_cases h : psErr l = 0
  · rw [show mRes l = man l from if_pos h, h]
    exact mencode_yes A n c l w hr hg h
  · rw [show mRes l = [] from if_neg h]
    refine (mencode_no A n c l w hr hg h).mono ?_
    rintro e w' ⟨rfl, hb⟩
    exact ⟨none, 0, 0, rfl, Rd.nil _ _, hb⟩
end Go.Proofs.Ytaaeihkbnfcolaa
