/- A number as bytes: the program's Number. -/
import Derived.Test.YtaaeihkbnfcolaaRows
import Derived.Test.YtaaeihkbnfcolaaApp
import Derived.Test.YtaaeihkbnfcolaaI8
import Derived.Test.YtaaeihkbnfcolaaY8
import Derived.Test.YtaaeihkbnfcolaaVn
import Derived.Lib.Hide
import Derived.IntWalk
namespace Go.Proofs.Ytaaeihkbnfcolaa
open Go.RowKit
/-- the call hands back bytes of its own, and no error -/
def GivesO (t : TypeId) (l : List UInt8) (w : World) (e : Ending) (w' : World) : Prop :=
  ∃ v, e = .returned (.tuple #[v, .int .i64 0]) ∧ w'.ownsRow w.heap.size t 1 v l.length (l.map bv8) ∧ Below w.heap.size w w'
theorem run_makeC {P : Program} {t e : TypeId} {i : TypeInfo} {z : Value} (ht : P.underlying t = some (.slice e)) (hi : P.info? e = some i) (hz : i.zero = some z) (hs : i.size = 1) (hzc : z.cells = #[z]) (hby : i.bytes = 1)
    (q : Int) (k : Nat) (hq : q = k) (hb : k ≤ 281474976710656) (w : World) :
    (Instr.makeSlice t (.int .i64 0) (.int .i64 q)).run P w = .ok (.slice (some ⟨w.heap.size, 0, none⟩) 0 k) (w.alloc (.cells (reps k z).toArray e)) := by
  subst hq
  have hr := run_make (P := P) w t e i z ht hi hz .i64 .i64 0 k (by omega) (by omega) (by rw [hby]; omega) (by omega)
  simp only [Int.toNat_natCast, Int.toNat_zero, hs, Nat.mul_one, hzc, made_one] at hr
  exact hr
theorem y8_ofNat (n : Nat) (h : n < 256) : y8 (UInt8.ofNat n) = (n : Int) := by
  unfold y8; rw [UInt8.toNat_ofNat']; omega
set_option maxHeartbeats 400000 in
theorem number_out (n : Int) (w : World) (h0 : -9223372036854775808 ≤ n) (h1 : n ≤ 9223372036854775807) (h : n < 0 ∨ 4294967295 < n) :
    Calls Try.prog 31 #[.int .i64 n] w fun e w' => e = .returned (.tuple #[.slice none 0 0, .int .i64 4]) ∧ w = w' := by
  by_cases hn : n < 0
  · have hd : decide (n < 0) = true := by simpa using hn
    go_enter Try.func31, Try.ntmps31
    go_wp2
    go_ret2
    exact ⟨rfl, rfl⟩
  · have hd : decide (n < 0) = false := by simpa using hn
    have hd2 : decide (4294967295 < n) = true := by simp; omega
    go_enter Try.func31, Try.ntmps31
    go_wp2
    go_ret2
    exact ⟨rfl, rfl⟩
set_option maxHeartbeats 1000000 in
theorem number_ok (n : Nat) (w : World) (h : n < 4294967296) :
    Calls Try.prog 31 #[.int .i64 n] w (GivesO 5 (enc n) w) := by
  obtain ⟨i0, hi0, hz0, hz1, hz2⟩ := info_parts u8_info
  have hmk := run_makeC (P := Try.prog) Try.underlying27 hi0 hz0 hz1 rfl hz2 5 5 rfl (by omega)
  have hd : decide ((n : Int) < 0) = false := by simp
  have hd2 : decide (4294967295 < (n : Int)) = false := by simp; omega
  have H5 := Lib.hid (enc_len5 h)
  have hown0 := World.ownsRow_made (base := w.heap.size) (e := 5) (size := 1) w (reps 5 (.int .u8 0)).toArray 5 (Nat.le_refl _) (by unfold maxLen; omega) rfl
  have hb0 := (Below.refl w.heap.size w).alloc (Nat.le_refl _) (.cells (reps 5 (.int .u8 0)).toArray 5)
  go_enter Try.func31, Try.ntmps31
  go_wp2
  go_loopw [0, 4] (fun q v wr => ∃ (m : Nat) (bs : List UInt8), q = .int .i64 m ∧ m < 4294967296 ∧ wr.ownsRow w.heap.size 5 1 v bs.length (bs.map bv8) ∧ Hid (bs ++ enc m = enc n) ∧ Below w.heap.size w wr) (fun q _ _ => (intOf q).toNat)
  case atStart => exact ⟨n, [], rfl, h, hown0, rfl, hb0⟩
  case round =>
    clear hown0 hb0
    obtain ⟨m, bs, rfl, hm, hown, HE, hbel⟩ := hrel
    have hlen : bs.length ≤ 4 := by
      have h1 := congrArg List.length HE.out
      rw [List.length_append] at h1
      have := enc_pos m
      have := H5.out
      omega
    by_cases hlt : m < 128
    · have HL := Lib.hid (show bs.map bv8 ++ [.int .u8 (m : Int)] = (enc n).map bv8 by rw [← HE.out, enc_small hlt, List.map_append, ← y8_ofNat m (by omega)]; rfl)
      have HN := Lib.hid (show bs.length + 1 = (enc n).length by rw [← HE.out, enc_small hlt, List.length_append]; rfl)
      have hge : decide (128 ≤ (m : Int)) = false := by simp; omega
      go_wp2_with (at_builtin; refine wpList_append1 rfl (.tmp 23) (.tmp 26) _ rfl Try.underlying27 hi0 hz0 hz1 hz2 rfl (by omega) _ _ _ rfl hown [.int .u8 (m : Int)] rfl (by simp [Value.oneCell']) rfl (by omega) (by omega) hbel.size ?_; rintro v1 w2 ⟨hown1, hbb1, hsz1, hfar1⟩)
      go_ret2
      rw [HL.out, HN.out] at hown1
      exact ⟨_, rfl, hown1, hbel.trans hbb1⟩
    · have hge : decide (128 ≤ (m : Int)) = true := by simp; omega
      have HL := Lib.hid (show bs.map bv8 ++ [.int .u8 ((m : Int) % 128 + 128)] = (bs ++ [UInt8.ofNat (m % 128 + 128)]).map bv8 by
        rw [List.map_append, show (m : Int) % 128 + 128 = ((m % 128 + 128 : Nat) : Int) by omega, ← y8_ofNat (m % 128 + 128) (by omega)]; rfl)
      have HN := Lib.hid (show bs.length + 1 = (bs ++ [UInt8.ofNat (m % 128 + 128)]).length by rw [List.length_append]; rfl)
      have HF := Lib.hid (show (bs ++ [UInt8.ofNat (m % 128 + 128)]) ++ enc (m / 128) = enc n by rw [← HE.out, enc_big hlt, List.append_assoc]; rfl)
      go_wp2_with (at_builtin; refine wpList_append1 rfl (.tmp 14) (.tmp 19) _ rfl Try.underlying27 hi0 hz0 hz1 hz2 rfl (by omega) _ _ _ rfl hown [.int .u8 ((m : Int) % 128 + 128)] rfl (by simp [Value.oneCell']) rfl (by omega) (by omega) hbel.size ?_; rintro v1 w2 ⟨hown1, hbb1, hsz1, hfar1⟩)
      rw [HL.out, HN.out] at hown1
      go_roundw
      case rel => exact ⟨m / 128, _, by go_num, by omega, hown1, HF.out, hbel.trans hbb1⟩
      case measure => simp [intOf]; omega
end Go.Proofs.Ytaaeihkbnfcolaa
