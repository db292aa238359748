/- The law WireBack: the walk. -/
import Derived.Test.YtfbkfclpfjoepaaCc
import Derived.Test.YtfbkfclpfjoepaaW4O
namespace Go.Proofs.Ytfbkfclpfjoepaa
open Go.RowKit
set_option maxRecDepth 100000 in
set_option maxHeartbeats 2000000 in
theorem wireBack_walk (n : Int) (hn : (Lit.int .i64 n).wf = true) (B : Option Addr) (m d : Nat) (k : List UInt8) (w : World) (hs : Rd w 1 B m d (k.map bv8)) (hB : B = none → d = 0) (hz : m ≤ 140737488351232) :
    Calls Try.prog 3 #[.int .i64 n, .slice B m d] w fun e w' => e = .returned (.bool true) ∧ Below w.heap.size w w' := by
  obtain ⟨n1, n2⟩ := i64_range hn
  obtain ⟨a, ha, ha2⟩ := pk_nat n 4294967296 (by omega)
  have ha3 : a < 4294967296 := by omega
  have hp0 := enc_pos a
  have hp5 := enc_len5 ha3
  have Ha := Lib.hid ha
  obtain rfl := hs.len
  obtain ⟨r1, r2, r3, r4⟩ := read_enc ha3 k
  have R1 := Lib.hid r1
  have R2 := Lib.hid r2
  have R4 := Lib.hid r4
  clear ha hn r1 r2 r3 r4
  go_enter Try.func3, Try.ntmps3
  go_wp2_with fail
  with_reducible refine (picked_nat n 4294967296 a _ n1 n2 (by omega) (by omega) Ha.out).mono ?_
  rintro e w' ⟨rfl, rfl⟩
  go_wp2_with fail
  with_reducible refine (number_ok a _ ha3).mono ?_
  rintro e w1 ⟨v1, rfl, hown1, hb1⟩
  obtain ⟨A1, c1, rfl, hr1, hA1⟩ := own_rdN hown1
  have hba := (Below.refl w1.heap.size w1).alloc (Nat.le_refl _) (.cells #[.slice A1 (enc a).length c1, .slice B k.length d] 22)
  have hg := Blk.new w1 22 [.slice A1 (enc a).length c1, .slice B k.length d]
  have hr2 := hr1.below hba
  have hs2 := (hs.below hb1).below hba
  clear hown1
  go_wp2_with fail
  with_reducible refine (concat2 _ _ _ _ _ _ _ _ _ _ hr2 hs2 hA1 hB hg (by omega)).mono ?_
  rintro e w2 ⟨v2, rfl, hown2, hb2⟩
  obtain ⟨A2, c2, rfl, hr3, hA2⟩ := own_rdN hown2
  have hbB := below_step hb1 (hba.trans (hb2.mono (by simp)))
  clear hown2 hg
  rw [List.length_append] at hr3
  have hln : (enc a).length + k.length ≤ 140737488355328 := by omega
  go_wp2_with fail
  with_reducible refine (readNumber_at _ _ _ _ _ hr3 hln (a : Int) 0 (by rw [R2.out]) R1.out).mono ?_
  rintro e w3 ⟨A3, n3, c3, rfl, hr4, hA3, hn3, hb3⟩
  rw [R4.out] at hr4
  obtain rfl := hr4.len
  have hbC := below_step hbB hb3
  have k1 := run_bytes_str (P := Try.prog) Try.underlying22 Try.underlying5 Try.underlying9 hr4
  have k2 := run_bytes_str (P := Try.prog) Try.underlying22 Try.underlying5 Try.underlying9 (hs.below hbC)
  have ee : (k == k) = true := by simp
  have e1 : decide ((1 : Int) ≤ ((enc a).length : Int)) = true := by simp; omega
  have e2 : decide (((enc a).length : Int) ≤ 5) = true := by simp; omega
  go_wp2
  go_ret
  exact ⟨rfl, hbC⟩
end Go.Proofs.Ytfbkfclpfjoepaa
