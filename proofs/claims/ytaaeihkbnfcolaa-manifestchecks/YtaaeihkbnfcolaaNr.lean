/- A number as bytes: the reference's WireNumber. -/
import Derived.Test.YtaaeihkbnfcolaaNu
namespace Go.Proofs.Ytaaeihkbnfcolaa
open Go.RowKit
theorem and127 (n : Nat) (h : n < 9223372036854775808) : bits .and .i64 (n : Int) 127 = ((n % 128 : Nat) : Int) := by
  have h2 : n &&& 127 = n % 128 := Nat.and_two_pow_sub_one_eq_mod n 7
  have ho : ∀ a : Nat, a < 9223372036854775808 → (BitVec.ofInt 64 (a : Int)).toNat = a := fun a ha => by
    rw [BitVec.ofInt_natCast, BitVec.toNat_ofNat]; exact Nat.mod_eq_of_lt (by omega)
  show IntKind.i64.wrap ((BitVec.ofInt 64 (n : Int) &&& BitVec.ofInt 64 ((127 : Nat) : Int)).toNat : Int) = _
  rw [BitVec.toNat_and, ho n h, ho 127 (by omega), h2, IntKind.wrap_i64]; omega
@[go_sem] theorem y8_or128 (x : UInt8) : bits .or .u8 (y8 x) 128 = y8 (x ||| 128) := by
  have : ∀ n : Fin 256, bits .or .u8 (n.val : Int) 128 = (((UInt8.ofNat n.val) ||| 128).toNat : Int) := by decide +kernel
  have h := this ⟨x.toNat, x.toNat_lt⟩
  simp only [UInt8.ofNat_toNat] at h
  exact h
theorem or128 (k : Nat) (h : k < 128) : UInt8.ofNat k ||| 128 = UInt8.ofNat (k + 128) := by
  have : ∀ n : Fin 128, UInt8.ofNat n.val ||| 128 = UInt8.ofNat (n.val + 128) := by decide +kernel
  exact this ⟨k, h⟩
/-- the bytes that come of the loop: the last byte x, the number m still to come -/
def fin (bs : List UInt8) (x : UInt8) (m : Nat) : List UInt8 := if m = 0 then bs ++ [x] else bs ++ [x ||| 128] ++ enc m
theorem fin_start (n : Nat) : fin [] (UInt8.ofNat (n % 128)) (n / 128) = enc n := by
  unfold fin
  by_cases h : n < 128
  · rw [if_pos (by omega), enc_small h, Nat.mod_eq_of_lt h]; rfl
  · rw [if_neg (by omega), enc_big h, or128 _ (by omega)]; rfl
theorem fin_step (bs : List UInt8) (x : UInt8) {m : Nat} (h : 0 < m) : fin (bs ++ [x ||| 128]) (UInt8.ofNat (m % 128)) (m / 128) = fin bs x m := by
  have e : fin bs x m = bs ++ [x ||| 128] ++ enc m := if_neg (by omega)
  rw [e, ← fin_start m]
  unfold fin
  split
  · simp
  · simp
theorem fin_length (bs : List UInt8) (x : UInt8) (m : Nat) : bs.length + 1 ≤ (fin bs x m).length := by
  unfold fin; split <;> simp <;> omega
set_option maxHeartbeats 400000 in
theorem rnumber_out (n : Int) (w : World) (h0 : -9223372036854775808 ≤ n) (h1 : n ≤ 9223372036854775807) (h : n < 0 ∨ 4294967295 < n) :
    Calls Try.prog 34 #[.int .i64 n] w fun e w' => e = .returned (.tuple #[.slice none 0 0, .int .i64 4]) ∧ w = w' := by
  by_cases hn : n < 0
  · have hd : decide (n < 0) = true := by simpa using hn
    go_enter Try.func34, Try.ntmps34
    go_wp2
    go_ret2
    exact ⟨rfl, rfl⟩
  · have hd : decide (n < 0) = false := by simpa using hn
    have hd2 : decide (4294967296 ≤ n) = true := by simp; omega
    go_enter Try.func34, Try.ntmps34
    go_wp2
    go_ret2
    exact ⟨rfl, rfl⟩
set_option maxHeartbeats 1000000 in
theorem rnumber_ok (n : Nat) (w : World) (h : n < 4294967296) :
    Calls Try.prog 34 #[.int .i64 n] w (GivesO 5 (enc n) w) := by
  obtain ⟨i0, hi0, hz0, hz1, hz2⟩ := info_parts u8_info
  have hd : decide ((n : Int) < 0) = false := by simp
  have hd2 : decide (4294967296 ≤ (n : Int)) = false := by simp; omega
  have H5 := Lib.hid (enc_len5 h)
  have HS := Lib.hid (fin_start n)
  have ha := and127 n (by omega)
  rw [← y8_ofNat (n % 128) (by omega)] at ha
  generalize UInt8.ofNat (n % 128) = x0 at *
  have hown0 := World.ownsRow_lit (base := w.heap.size) (e := 5) (size := 1) w #[.int .u8 (y8 x0)] 1 (Nat.le_refl _) (by unfold maxLen; omega) rfl
  have hb0 := (Below.refl w.heap.size w).alloc (Nat.le_refl _) (.cells #[.int .u8 (y8 x0)] 5)
  go_enter Try.func34, Try.ntmps34
  go_wp2
  go_loopw [0, 4] (fun q v wr => ∃ (m : Nat) (bs : List UInt8) (x : UInt8), q = .int .i64 m ∧ m < 4294967296 ∧ wr.ownsRow w.heap.size 5 1 v (bs.length + 1) ((bs ++ [x]).map bv8) ∧ Hid (fin bs x m = enc n) ∧ Below w.heap.size w wr) (fun q _ _ => (intOf q).toNat)
  case atStart => exact ⟨n / 128, [], x0, by go_num, by omega, hown0, HS.out, hb0⟩
  case round =>
    clear hown0 hb0 ha HS
    obtain ⟨m, bs, x, rfl, hm, hown, HE, hbel⟩ := hrel
    have hlen : bs.length ≤ 4 := by
      have h1 := congrArg List.length HE.out
      have := fin_length bs x m
      have := H5.out
      omega
    by_cases hlt : 0 < m
    · have hge : decide (0 < (m : Int)) = true := by simp; omega
      have ha := and127 m (by omega)
      rw [← y8_ofNat (m % 128) (by omega)] at ha
      have HF := Lib.hid (fin_step bs x hlt)
      generalize UInt8.ofNat (m % 128) = y at *
      obtain ⟨g, cap, rfl, hg, hglt⟩ := hown.form (by omega)
      have hc1 : wr.cell? ⟨g, bs.length, none⟩ = some (.int .u8 (y8 x)) := by
        rw [hown.cellAt _ (by omega), List.getElem?_map, List.getElem?_append_right (by omega), Nat.sub_self]; rfl
      have hf1 := hown.frozenAt bs.length
      have hst := (hown.stored bs.length (.int .u8 (y8 (x ||| 128)))).1
      have e1 : ((bs ++ [x]).map bv8).set bs.length (.int .u8 (y8 (x ||| 128))) = (bs ++ [x ||| 128]).map bv8 := by
        rw [show (.int .u8 (y8 (x ||| 128)) : Value) = bv8 (x ||| 128) from rfl, ← List.map_set, set_last _ _ _ _ rfl]
      rw [e1] at hst
      have hbs := hbel.setCell (p := ⟨g, bs.length, none⟩) hg (.int .u8 (y8 (x ||| 128)))
      clear e1
      go_wp2_with (at_builtin; (refine wpList_append1 rfl (.tmp 29) (.tmp 33) _ rfl Try.underlying27 hi0 hz0 hz1 hz2 rfl (by omega) _ _ _ rfl hst [.int .u8 (y8 y)] rfl (by simp [Value.oneCell']) (by simp [Act.eval]) (by omega) (by omega) hbs.size ?_; rintro v1 w2 ⟨hown1, hbb1, hsz1, hfar1⟩))
      go_roundw
      case rel =>
        refine ⟨m / 128, bs ++ [x ||| 128], y, by go_num, by omega, ?_, HF.out.trans HE.out, hbs.trans hbb1⟩
        rw [List.map_append, List.length_append]; exact hown1
      case measure => simp [intOf]; omega
    · have hge : decide (0 < (m : Int)) = false := by simp; omega
      have hm0 : m = 0 := by omega
      have he : bs ++ [x] = enc n := by have := HE.out; rw [hm0] at this; exact this
      have hn : bs.length + 1 = (enc n).length := by rw [← he, List.length_append]; rfl
      rw [he, hn] at hown
      clear hm0 he hn
      go_wp2
      go_ret2
      exact ⟨_, rfl, hown, hbel⟩
end Go.Proofs.Ytaaeihkbnfcolaa
