/- The program's manifest: Decode. -/
import Derived.Test.YtaaeihkbnfcolaaMd
import Derived.Test.YtaaeihkbnfcolaaMe
import Derived.Test.YtaaeihkbnfcolaaPe
namespace Go.Proofs.Ytaaeihkbnfcolaa
open Go.RowKit
set_option maxHeartbeats 400000 in
theorem mdecode_big (A : Option Addr) (n c : Nat) (w : World) (h : 2000 < n) (hn : n ≤ 9223372036854775807) :
    Calls Try.prog 18 #[.slice A n c] w fun e w' => e = .returned (.tuple #[.slice none 0 0, .int .i64 1]) ∧ Below w.heap.size w w' := by
  go_enter Try.func18, Try.ntmps18
  go_wp2
  go_ret2
  exact ⟨rfl, Below.refl _ _⟩
theorem head_rd (w : World) : Rd (w.alloc (.cells #[.int .u8 65, .int .u8 77, .int .u8 49] 5 (3, 4))) 1 (some ⟨w.heap.size, 0, none⟩) 3 3 (([65, 77, 49] : List UInt8).map bv8) :=
  new_rd w 5 [65, 77, 49] (3, 4) (by unfold maxLen; simp)
theorem head_run (w : World) (C : Array Value) (n c : Nat) : (convert 27 27 (.slice (some ⟨w.heap.size, 0, none⟩) n c)).run Try.prog (w.alloc (.cells C 5)) = .ok (.slice (some ⟨w.heap.size, 0, none⟩) n c) (w.alloc (.cells C 5 (C.size, C.size + 1))) :=
  Lib.run_convert_bytes_const (P := Try.prog) w 27 5 C n c Try.underlying27 Try.underlying5
set_option maxHeartbeats 400000 in
theorem mdecode_short (A : Option Addr) (n c : Nat) (w : World) (h : n < 3) :
    Calls Try.prog 18 #[.slice A n c] w fun e w' => e = .returned (.tuple #[.slice none 0 0, .int .i64 3]) ∧ Below w.heap.size w w' := by
  have hd : decide (2000 < (n : Int)) = false := by simp; omega
  have kc := head_run
  have hal := (Below.refl w.heap.size w).alloc (Nat.le_refl _) (.cells #[.int .u8 65, .int .u8 77, .int .u8 49] 5 (3, 4))
  go_enter Try.func18, Try.ntmps18
  go_wp2_with fail
  with_reducible refine (hasPrefix_short _ _ _ _ _ h).mono ?_
  rintro e w1 ⟨rfl, rfl⟩
  go_wp2
  go_ret2
  exact ⟨rfl, hal⟩
set_option maxHeartbeats 400000 in
theorem mdecode_form (A : Option Addr) (n c : Nat) (l : List UInt8) (w : World) (hr : Rd w 1 A n c (l.map bv8)) (h : 3 ≤ n) (h2 : n ≤ 2000) (hne : l.take 3 ≠ [65, 77, 49]) :
    Calls Try.prog 18 #[.slice A n c] w fun e w' => e = .returned (.tuple #[.slice none 0 0, .int .i64 3]) ∧ Below w.heap.size w w' := by
  have hd : decide (2000 < (n : Int)) = false := by simp; omega
  have kc := head_run
  have hal := (Below.refl w.heap.size w).alloc (Nat.le_refl _) (.cells #[.int .u8 65, .int .u8 77, .int .u8 49] 5 (3, 4))
  have f5 : (l.take 3 == [65, 77, 49]) = false := by rw [beq_eq_false_iff_ne]; exact hne
  have HF := Lib.hid f5
  clear hne f5
  go_enter Try.func18, Try.ntmps18
  go_wp2_with fail
  with_reducible refine (hasPrefix_ok _ _ _ _ _ _ _ (hr.below hal) (head_rd w) h).mono ?_
  rintro e w1 ⟨rfl, rfl⟩
  rw [HF.out]
  go_wp2
  go_ret2
  exact ⟨rfl, hal⟩
set_option maxRecDepth 100000 in
set_option maxHeartbeats 400000 in
theorem mdecode_full (b off n : Nat) (l : List UInt8) (w : World) (hr : Rd w 1 (some ⟨b, off, none⟩) n 3 (l.map bv8)) (h : 3 ≤ n) (heq : l.take 3 = [65, 77, 49]) :
    Calls Try.prog 18 #[.slice (some ⟨b, off, none⟩) n 3] w fun e w' => e = .returned (.tuple #[.slice none 0 0, .int .i64 8]) ∧ Below w.heap.size w w' := by
  obtain rfl : n = 3 := by have := hr.2.1; omega
  have kc := head_run
  have hal := (Below.refl w.heap.size w).alloc (Nat.le_refl _) (.cells #[.int .u8 65, .int .u8 77, .int .u8 49] 5 (3, 4))
  have HF : Hid ((l.take 3 == [65, 77, 49]) = true) := by show _ = _; rw [beq_iff_eq]; exact heq
  have hr4 : Rd (w.alloc (.cells #[.int .u8 65, .int .u8 77, .int .u8 49] 5 (3, 4))) 1 (some ⟨b, off, none⟩) 0 0 (([] : List UInt8).map bv8) := Rd.none0 _ _ 0 (by unfold maxLen; omega)
  have R8 : rErr [] = 8 := (read_short (l := []) (by decide) rfl).1
  have HX : Hid (rdN [] = (8, [], [])) := by show _ = _; rw [rdN, R8, if_pos (by omega)]
  clear heq R8
  go_enter Try.func18, Try.ntmps18
  go_wp2_with fail
  with_reducible refine (hasPrefix_ok _ _ _ _ _ _ _ (hr.below hal) (head_rd w) h).mono ?_
  rintro e w1 ⟨rfl, rfl⟩
  rw [HF.out]
  go_wp2_with fail
  with_reducible refine (readParts_at _ _ _ _ _ hr4 (by omega) _ HX).mono ?_
  rintro e w2 ⟨A2, n2, c2, B2, m2, d2, rfl, hr2, hA2, hs2, hb2⟩
  simp only
  go_wp2
  go_ret2
  exact ⟨rfl, below_step hal hb2⟩
set_option maxRecDepth 100000 in
set_option maxHeartbeats 1000000 in
theorem mdecode_in (b off n c : Nat) (l : List UInt8) (w : World) (hr : Rd w 1 (some ⟨b, off, none⟩) n c (l.map bv8)) (h : 3 ≤ n) (h2 : n ≤ 2000) (heq : l.take 3 = [65, 77, 49]) (hc3 : ¬ c = 3) (er : Int) (ps : List Prt) (hdec : Hid (fin3 (rdN (l.drop 3)) = (er, ps))) :
    Calls Try.prog 18 #[.slice (some ⟨b, off, none⟩) n c] w (GivesP ps er w) := by
  have hd : decide (2000 < (n : Int)) = false := by simp; omega
  have kc := head_run
  have hcm := hr.2.1
  have hci : (3 : Int) ≤ (c : Int) := by omega
  have hni : (3 : Int) ≤ (n : Int) := by omega
  have hal := (Below.refl w.heap.size w).alloc (Nat.le_refl _) (.cells #[.int .u8 65, .int .u8 77, .int .u8 49] 5 (3, 4))
  have HF : Hid ((l.take 3 == [65, 77, 49]) = true) := by show _ = _; rw [beq_iff_eq]; exact heq
  have hrW := hr.below hal
  have hr3 := hrW.drop 3 h
  rw [← List.map_drop] at hr3
  have HG := Lib.hid (rdN_good (l := l.drop 3) (by have := hr.len; rw [List.length_drop]; omega))
  obtain ⟨x, hx⟩ : ∃ x, rdN (l.drop 3) = x := ⟨_, rfl⟩
  have HX := Lib.hid hx
  rw [HX.out] at HG hdec
  clear heq hx
  go_enter Try.func18, Try.ntmps18
  go_wp2_with fail
  with_reducible refine (hasPrefix_ok _ _ _ _ _ _ _ hrW (head_rd w) h).mono ?_
  rintro e w1 ⟨rfl, rfl⟩
  rw [HF.out]
  go_wp2_with fail
  with_reducible refine (readParts_at _ _ _ _ _ hr3 (by omega) _ HX).mono ?_
  rintro e w2 ⟨A2, n2, c2, B2, m2, d2, rfl, hr2, hA2, hs2, hb2⟩
  have hbA := below_step hal hb2
  obtain ⟨e1, l1, r1⟩ := x
  simp only at hr2 hs2 HG ⊢
  clear hr hrW hr3 hal hb2 HX hcm hci hni hc3 kc HF hd
  have HM := Lib.hid hs2.len
  by_cases he : e1 = 0
  · have n1 : (e1 != 0) = false := by rw [bne_eq_false_iff_eq]; exact he
    have hd1 := hdec.out
    rw [fin3, if_neg (by simpa using he)] at hd1
    clear hdec he
    by_cases hm : 0 < m2
    · have z1 : decide (0 < (m2 : Int)) = true := by simp; omega
      rw [if_pos (by simp only; rw [← HM.out]; exact hm)] at hd1
      have HD := Lib.hid hd1
      clear hd1
      go_wp2
      go_ret2
      have q1 := congrArg Prod.fst HD.out
      have q2 := congrArg Prod.snd HD.out
      simp only at q1 q2
      rw [← q1, ← q2]
      exact givesP_nil ⟨rfl, hbA⟩
    · rw [if_neg (by simp only; rw [← HM.out]; exact hm)] at hd1
      simp only at hd1
      obtain rfl : m2 = 0 := by omega
      have HD0 := Lib.hid hd1
      clear hd1 hm
      go_wp2_with fail
      with_reducible refine (mcheck_any _ _ _ _ _ hr2 HG.out).mono ?_
      rintro e w3 ⟨rfl, hb3⟩
      have hbB := below_step hbA hb3
      by_cases hp : psErr l1 = 0
      · have p1 : (psErr l1 != 0) = false := by rw [bne_eq_false_iff_eq]; exact hp
        have hd1 := HD0.out
        rw [if_neg (by omega)] at hd1
        have HD := Lib.hid hd1
        clear hd1 hp HD0
        go_wp2
        go_ret2
        have q1 := congrArg Prod.fst HD.out
        have q2 := congrArg Prod.snd HD.out
        simp only at q1 q2
        rw [← q1, ← q2]
        exact ⟨_, _, _, rfl, hr2.below hb3, hA2, hbB⟩
      · have p1 : (psErr l1 != 0) = true := by rw [bne_iff_ne]; exact hp
        have hd1 := HD0.out
        rw [if_pos hp] at hd1
        have HD := Lib.hid hd1
        clear hd1 hp HD0
        go_wp2
        go_ret2
        have q1 := congrArg Prod.fst HD.out
        have q2 := congrArg Prod.snd HD.out
        simp only at q1 q2
        rw [← q1, ← q2]
        exact givesP_nil ⟨rfl, hbB⟩
  · have n1 : (e1 != 0) = true := by rw [bne_iff_ne]; exact he
    have hd1 := hdec.out
    rw [fin3, if_pos he] at hd1
    have HD := Lib.hid hd1
    clear hd1 hdec he
    go_wp2
    go_ret2
    have q1 := congrArg Prod.fst HD.out
    have q2 := congrArg Prod.snd HD.out
    simp only at q1 q2
    rw [← q1, ← q2]
    exact givesP_nil ⟨rfl, hbA⟩
theorem mdecode_any (A : Option Addr) (n c : Nat) (l : List UInt8) (w : World) (hr : Rd w 1 A n c (l.map bv8)) (_hz : n ≤ 140737488351232) :
    Calls Try.prog 18 #[.slice A n c] w (GivesP (dec l).2 (dec l).1 w) := by
  have hn := hr.len
  have hcm := hr.2.1
  have hcx := hr.2.2.1
  unfold maxLen at hcx
  by_cases h1 : 2000 < n
  · rw [show dec l = (1, []) from if_pos (by omega)]
    exact (mdecode_big A n c w h1 (by omega)).mono fun _ _ k => givesP_nil k
  · by_cases h2 : n < 3
    · rw [show dec l = (3, []) by unfold dec; rw [if_neg (by omega), if_pos (.inl (by omega))]]
      exact (mdecode_short A n c w h2).mono fun _ _ k => givesP_nil k
    · by_cases h3 : l.take 3 = [65, 77, 49]
      · obtain ⟨b, off, rfl, _⟩ := hr.2.2.2 (by simp; omega)
        have hd := dec_fin (l := l) (by omega) (by rintro (q | q); · omega
                                                   · exact q h3)
        by_cases h4 : c = 3
        · subst h4
          have h0 : l.drop 3 = [] := List.drop_of_length_le (by omega)
          have R8 : rErr [] = 8 := (read_short (l := []) (by decide) rfl).1
          rw [hd, h0, show rdN [] = (8, [], []) by rw [rdN, R8, if_pos (by omega)]]
          exact (mdecode_full b off n l w hr (by omega) h3).mono fun _ _ k => givesP_nil k
        · exact mdecode_in b off n c l w hr (by omega) (by omega) h3 h4 _ _ hd.symm
      · rw [show dec l = (3, []) by unfold dec; rw [if_neg (by omega), if_pos (.inr h3)]]
        exact (mdecode_form A n c l w hr (by omega) (by omega) h3).mono fun _ _ k => givesP_nil k
end Go.Proofs.Ytaaeihkbnfcolaa
