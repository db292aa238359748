/- The law WireTextBack: the walk. -/
import Derived.Test.YtfbkfclpfjoepaaW4B
import Derived.Test.YtfbkfclpfjoepaaTp
import Derived.Test.YtfbkfclpfjoepaaRt
namespace Go.Proofs.Ytfbkfclpfjoepaa
open Go.RowKit
theorem text_read (m r : List UInt8) (h : m.length ≤ 2000) : tErr (txt m ++ r) = 0 ∧ tStr (txt m ++ r) = m ∧ tRest (txt m ++ r) = r := by
  have e : txt m ++ r = enc m.length ++ (m ++ r) := by unfold txt; rw [List.append_assoc]
  obtain ⟨r1, r2, _, r4⟩ := read_enc (n := m.length) (by omega) (m ++ r)
  rw [← e] at r1 r2 r4
  have h0 : tErr (txt m ++ r) = 0 := tErr_zero r1 (by rw [r2]; omega) (by rw [r2, r4, List.length_append]; omega)
  refine ⟨h0, ?_, ?_⟩
  · rw [(tErr_ok h0).1, r2, r4, List.take_left' rfl]
  · rw [(tErr_ok h0).2, r2, r4, List.drop_left' rfl]
theorem text_cut (m : List UInt8) (h : m.length ≤ 2000) (p : Nat) (hp : p < (txt m).length) : tErr ((txt m).take p) = 8 := by
  have hl : (txt m).length = (enc m.length).length + m.length := List.length_append
  by_cases h1 : p < (enc m.length).length
  · have e : (txt m).take p = (enc m.length).take p := by unfold txt; rw [List.take_append_of_le_length (by omega)]
    rw [e]
    exact tErr_r (read_cut (by omega) h1) (by omega)
  · have e : (txt m).take p = enc m.length ++ m.take (p - (enc m.length).length) := by
      unfold txt; rw [List.take_append, List.take_of_length_le (by omega)]
    obtain ⟨r1, r2, _, r4⟩ := read_enc (n := m.length) (by omega) (m.take (p - (enc m.length).length))
    rw [← e] at r1 r2 r4
    exact tErr_short r1 (by rw [r2]; omega) (by rw [r2, r4, List.length_take]; omega)
theorem txt_length (m : List UInt8) : (txt m).length = (enc m.length).length + m.length := List.length_append
@[go_sem] theorem str_cut (l : List UInt8) (j : Nat) : (str l).extract 0 j = str (l.take j) := by
  apply ByteArray.ext
  simp [str, ByteArray.data_extract]
theorem readText_at (A : Option Addr) (n c : Nat) (l : List UInt8) (w : World) (hr : Rd w 1 A n c (l.map bv8)) (hz : n ≤ 140737488355328) (s : List UInt8) (e : Int) (hs : tStr l = s) (he : tErr l = e) :
    Calls Try.prog 12 #[.slice A n c] w (GivesN (.string (str s)) (tRest l) e w) := by
  rw [← hs, ← he]; exact readText_any A n c l w hr hz
set_option maxRecDepth 100000 in
set_option maxHeartbeats 2000000 in
theorem wireTextBack_walk (l : List UInt8) (hl : l.length ≤ maxLen) (B : Option Addr) (mm d : Nat) (r : List UInt8) (k : Int) (hk : (Lit.int .i64 k).wf = true) (w : World) (hs : Rd w 1 B mm d (r.map bv8)) (hB : B = none → d = 0) (hz : mm ≤ 140737488351232) :
    Calls Try.prog 5 #[.string (str l), .slice B mm d, .int .i64 k] w fun e w' => e = .returned (.bool true) ∧ Below w.heap.size w w' := by
  obtain ⟨k1, k2⟩ := i64_range hk
  obtain rfl := hs.len
  unfold maxLen at hl
  clear hk
  by_cases hbig : 1000 < l.length
  · have q1 : (1000 : Int) < (l.length : Int) := by omega
    have q2 : (1000 : Int) ≤ (l.length : Int) := by omega
    have hml : (l.take 1000).length = 1000 := by rw [List.length_take]; omega
    have Hml := Lib.hid hml
    clear hml
    have hm5 := enc_len5 (n := 1000) (by omega)
    have hmp := enc_pos 1000
    go_enter Try.func5, Try.ntmps5
    go_wp2_with fail
    generalize l.take 1000 = m at *
    have hml := Hml.out
    rw [← hml] at hm5 hmp
    go_wp2_with fail
    with_reducible refine (text_ok m _ (by omega)).mono ?_
    rintro e w1 ⟨v1, rfl, hown1, hb1⟩
    obtain ⟨A1, c1, rfl, hr1, hA1⟩ := own_rdN hown1
    clear hown1
    obtain ⟨N, hN⟩ : ∃ N, (txt m).length = N := ⟨_, rfl⟩
    have hN2 : 1 ≤ N ∧ N ≤ 2005 := by rw [← hN, txt_length]; omega
    obtain ⟨hN3, hN4⟩ := hN2
    have HN := Lib.hid hN
    rw [hN] at hr1 ⊢
    clear hN
    obtain ⟨p, hp, hp2⟩ := pk_nat k (N : Int) (by omega)
    have Hp := Lib.hid hp
    have hp3 : p < N := by omega
    have HX := Lib.hid (text_cut m (by omega) p (by rw [HN.out]; exact hp3))
    have hl0 : ((N : Int) == 0) = false := by rw [beq_eq_false_iff_ne]; omega
    have hba := (Below.refl w1.heap.size w1).alloc (Nat.le_refl _) (.cells #[.slice A1 N c1, .slice B r.length d] 22)
    have hg := Blk.new w1 22 [.slice A1 N c1, .slice B r.length d]
    have hr2 := hr1.below hba
    have hs2 := (hs.below hb1).below hba
    clear hp
    go_wp2_with fail
    with_reducible refine (concat2 _ _ _ _ _ _ _ _ _ _ hr2 hs2 hA1 hB hg (by omega)).mono ?_
    rintro e w2 ⟨v2, rfl, hown2, hb2⟩
    obtain ⟨A2, c2, rfl, hr3, hA2⟩ := own_rdN hown2
    have hbB := below_step hb1 (hba.trans (hb2.mono (by simp)))
    have hbB1 := hba.trans (hb2.mono (by simp))
    clear hown2 hg
    rw [List.length_append, HN.out] at hr3 ⊢
    have HT := Lib.hid (text_read m r (by omega))
    go_wp2_with fail
    with_reducible refine (readText_at _ _ _ _ _ hr3 (by omega) m 0 HT.out.2.1 HT.out.1).mono ?_
    rintro e w3 ⟨A3, n3, c3, rfl, hr4, hA3, hn3, hb3⟩
    rw [HT.out.2.2] at hr4
    obtain rfl := hr4.len
    have hbC := below_step hbB hb3
    have hr5 := (hr1.below hbB1).below hb3
    have hc5 := hr5.2.1
    have hr6 := hr5.take p (by omega)
    rw [← List.map_take] at hr6
    go_wp2_with fail
    with_reducible refine (picked_nat k (N : Int) p _ k1 k2 (by omega) (by omega) Hp.out).mono ?_
    rintro e w' ⟨rfl, rfl⟩
    have hpi : (p : Int) ≤ (c1 : Int) := by omega
    go_wp2_with fail
    with_reducible refine (readText_at _ _ _ _ _ hr6 (by omega) _ 8 rfl HX.out).mono ?_
    rintro e w5 ⟨A5, n5, c5, rfl, hr7, hA5, hn5, hb5⟩
    have hbD := below_step hbC hb5
    have z1 := run_bytes_str (P := Try.prog) Try.underlying22 Try.underlying5 Try.underlying9 (hr4.below hb5)
    have z2 := run_bytes_str (P := Try.prog) Try.underlying22 Try.underlying5 Try.underlying9 (hs.below hbD)
    have ee : (r == r) = true := by simp
    have ef : (m == m) = true := by simp
    go_wp2
    go_ret
    exact ⟨rfl, hbD⟩
  · have q1 : ¬ (1000 : Int) < (l.length : Int) := by omega
    have hm5 := enc_len5 (n := l.length) (by omega)
    have hmp := enc_pos l.length
    go_enter Try.func5, Try.ntmps5
    go_wp2_with fail
    with_reducible refine (text_ok l _ (by omega)).mono ?_
    rintro e w1 ⟨v1, rfl, hown1, hb1⟩
    obtain ⟨A1, c1, rfl, hr1, hA1⟩ := own_rdN hown1
    clear hown1
    obtain ⟨N, hN⟩ : ∃ N, (txt l).length = N := ⟨_, rfl⟩
    have hN2 : 1 ≤ N ∧ N ≤ 2005 := by rw [← hN, txt_length]; omega
    obtain ⟨hN3, hN4⟩ := hN2
    have HN := Lib.hid hN
    rw [hN] at hr1 ⊢
    clear hN
    obtain ⟨p, hp, hp2⟩ := pk_nat k (N : Int) (by omega)
    have Hp := Lib.hid hp
    have hp3 : p < N := by omega
    have HX := Lib.hid (text_cut l (by omega) p (by rw [HN.out]; exact hp3))
    have hl0 : ((N : Int) == 0) = false := by rw [beq_eq_false_iff_ne]; omega
    have hba := (Below.refl w1.heap.size w1).alloc (Nat.le_refl _) (.cells #[.slice A1 N c1, .slice B r.length d] 22)
    have hg := Blk.new w1 22 [.slice A1 N c1, .slice B r.length d]
    have hr2 := hr1.below hba
    have hs2 := (hs.below hb1).below hba
    clear hp
    go_wp2_with fail
    with_reducible refine (concat2 _ _ _ _ _ _ _ _ _ _ hr2 hs2 hA1 hB hg (by omega)).mono ?_
    rintro e w2 ⟨v2, rfl, hown2, hb2⟩
    obtain ⟨A2, c2, rfl, hr3, hA2⟩ := own_rdN hown2
    have hbB := below_step hb1 (hba.trans (hb2.mono (by simp)))
    have hbB1 := hba.trans (hb2.mono (by simp))
    clear hown2 hg
    rw [List.length_append, HN.out] at hr3 ⊢
    have HT := Lib.hid (text_read l r (by omega))
    go_wp2_with fail
    with_reducible refine (readText_at _ _ _ _ _ hr3 (by omega) l 0 HT.out.2.1 HT.out.1).mono ?_
    rintro e w3 ⟨A3, n3, c3, rfl, hr4, hA3, hn3, hb3⟩
    rw [HT.out.2.2] at hr4
    obtain rfl := hr4.len
    have hbC := below_step hbB hb3
    have hr5 := (hr1.below hbB1).below hb3
    have hc5 := hr5.2.1
    have hr6 := hr5.take p (by omega)
    rw [← List.map_take] at hr6
    go_wp2_with fail
    with_reducible refine (picked_nat k (N : Int) p _ k1 k2 (by omega) (by omega) Hp.out).mono ?_
    rintro e w' ⟨rfl, rfl⟩
    have hpi : (p : Int) ≤ (c1 : Int) := by omega
    go_wp2_with fail
    with_reducible refine (readText_at _ _ _ _ _ hr6 (by omega) _ 8 rfl HX.out).mono ?_
    rintro e w5 ⟨A5, n5, c5, rfl, hr7, hA5, hn5, hb5⟩
    have hbD := below_step hbC hb5
    have z1 := run_bytes_str (P := Try.prog) Try.underlying22 Try.underlying5 Try.underlying9 (hr4.below hb5)
    have z2 := run_bytes_str (P := Try.prog) Try.underlying22 Try.underlying5 Try.underlying9 (hs.below hbD)
    have ee : (r == r) = true := by simp
    have ef : (l == l) = true := by simp
    go_wp2
    go_ret
    exact ⟨rfl, hbD⟩
end Go.Proofs.Ytfbkfclpfjoepaa
