/- Hexadecimal digits: plain facts. -/
import Derived.Test.YtnijkogpdahgnaaH2v
namespace Go.Proofs.Ytnijkogpdahgnaa
open Go.RowKit
theorem dg_table : ∀ n : Fin 256, two (dg (UInt8.ofNat n.val >>> 4)) (dg (UInt8.ofNat n.val &&& 15)) = UInt8.ofNat n.val ∧ isD (dg (UInt8.ofNat n.val >>> 4)) = true ∧ isD (dg (UInt8.ofNat n.val &&& 15)) = true := by decide +kernel
theorem dg_spec (x : UInt8) : two (dg (x >>> 4)) (dg (x &&& 15)) = x ∧ isD (dg (x >>> 4)) = true ∧ isD (dg (x &&& 15)) = true := by
  have := dg_table ⟨x.toNat, x.toNat_lt⟩
  simpa only [UInt8.ofNat_toNat] using this
theorem hexT_cons (a : UInt8) (r : List UInt8) : hexT (a :: r) = dg (a >>> 4) :: dg (a &&& 15) :: hexT r := rfl
theorem unh_hexT : ∀ l : List UInt8, unh (hexT l) = l
  | [] => rfl
  | a :: r => by rw [hexT_cons, unh, unh_hexT r, (dg_spec a).1]
theorem hexT_all : ∀ l : List UInt8, (hexT l).all isD = true
  | [] => rfl
  | a :: r => by rw [hexT_cons, List.all_cons, List.all_cons, (dg_spec a).2.1, (dg_spec a).2.2, hexT_all r]; rfl
theorem two_parts_table : ∀ a b : Fin 16, (UInt8.ofNat a.val <<< 4 ||| UInt8.ofNat b.val) >>> 4 = UInt8.ofNat a.val ∧ (UInt8.ofNat a.val <<< 4 ||| UInt8.ofNat b.val) &&& 15 = UInt8.ofNat b.val := by decide +kernel
theorem two_parts {a b : UInt8} (ha : isD a = true) (hb : isD b = true) : dg (two a b >>> 4) = a ∧ dg (two a b &&& 15) = b := by
  have h1 := vl_spec ha
  have h2 := vl_spec hb
  have := two_parts_table ⟨(vl a).toNat, h1.2.2⟩ ⟨(vl b).toNat, h2.2.2⟩
  simp only [UInt8.ofNat_toNat] at this
  unfold two
  rw [this.1, this.2]
  exact ⟨h1.2.1, h2.2.1⟩
theorem hexT_unh : ∀ l : List UInt8, l.length % 2 = 0 → l.all isD = true → hexT (unh l) = l
  | [], _, _ => rfl
  | [_], h, _ => absurd h (by simp)
  | a :: b :: r, h, hd => by
    simp only [List.all_cons, Bool.and_eq_true] at hd
    rw [unh, hexT_cons, (two_parts hd.1 hd.2.1).1, (two_parts hd.1 hd.2.1).2, hexT_unh r (by simp at h; omega) hd.2.2]
theorem cmp_cons (a b : UInt8) (s t : List UInt8) : Lib.compareBytes (a :: s) (b :: t) = if a < b then -1 else if b < a then 1 else Lib.compareBytes s t := rfl
theorem dg_mono_table : ∀ a b : Fin 16, (dg (UInt8.ofNat a.val) < dg (UInt8.ofNat b.val)) = (UInt8.ofNat a.val < UInt8.ofNat b.val) := by
  have : ∀ a b : Fin 16, decide (dg (UInt8.ofNat a.val) < dg (UInt8.ofNat b.val)) = decide (UInt8.ofNat a.val < UInt8.ofNat b.val) := by decide +kernel
  intro a b
  have := this a b
  rw [decide_eq_decide] at this
  exact propext this
theorem dg_lt {a b : UInt8} (ha : a.toNat < 16) (hb : b.toNat < 16) : (dg a < dg b) = (a < b) := by
  have := dg_mono_table ⟨a.toNat, ha⟩ ⟨b.toNat, hb⟩
  simpa only [UInt8.ofNat_toNat] using this
theorem y8_lo (x : UInt8) : ((x &&& 15).toNat : Int) = (x.toNat : Int) % 16 := by
  rw [UInt8.toNat_and]
  have h : x.toNat &&& 15 = x.toNat % 16 := Nat.and_two_pow_sub_one_eq_mod _ 4
  show ((x.toNat &&& 15 : Nat) : Int) = _
  rw [h]; omega
theorem y8_hi (x : UInt8) : ((x >>> 4).toNat : Int) = (x.toNat : Int) / 16 := (y8_div16 x).symm
theorem cmp_two (a b : UInt8) (X : Int) : (if dg (a >>> 4) < dg (b >>> 4) then (-1 : Int) else if dg (b >>> 4) < dg (a >>> 4) then 1 else (if dg (a &&& 15) < dg (b &&& 15) then -1 else if dg (b &&& 15) < dg (a &&& 15) then 1 else X)) = if a < b then -1 else if b < a then 1 else X := by
  simp only [dg_lt (hi_lt a) (hi_lt b), dg_lt (hi_lt b) (hi_lt a), dg_lt (lo_lt a) (lo_lt b), dg_lt (lo_lt b) (lo_lt a)]
  have h1 := y8_hi a; have h2 := y8_hi b; have h3 := y8_lo a; have h4 := y8_lo b
  have L : ∀ x y : UInt8, (x < y) = (x.toNat < y.toNat) := fun x y => propext UInt8.lt_iff_toNat_lt
  simp only [L]
  repeat' split
  all_goals first | rfl | omega
theorem cmp_hexT : ∀ a b : List UInt8, Lib.compareBytes (hexT a) (hexT b) = Lib.compareBytes a b
  | [], [] => rfl
  | [], _ :: _ => rfl
  | _ :: _, [] => rfl
  | a :: s, b :: t => by rw [hexT_cons, hexT_cons, cmp_cons, cmp_cons, cmp_cons, cmp_hexT s t, cmp_two]
set_option maxHeartbeats 400000 in
theorem compareString_any (a b : ByteArray) (w : World) :
    Calls Try.prog 22 #[.string a, .string b] w fun e w' => e = .returned (.int .i64 (Lib.compareBytes a.data.toList b.data.toList)) ∧ w' = w := by
  go_enter Try.func22, Try.ntmps22
  go_wp2
  rw [run_callFunc_extern Try.func34 (by kernel_rfl) (by kernel_rfl) (by kernel_rfl) (e := Extern.BytealgCompare.compare) (by kernel_rfl), Lib.run_compareString]
  simp only [Result.andThen]
  rw [Oper.upon_value]
  go_wp2
  go_ret
  exact ⟨rfl, rfl⟩
set_option maxHeartbeats 400000 in
theorem compare_any (a b : List UInt8) (w : World) :
    Calls Try.prog 16 #[.string (str a), .string (str b)] w fun e w' => e = .returned (.int .i64 (Lib.compareBytes a b)) ∧ w' = w := by
  go_enter Try.func16, Try.ntmps16
  go_wp2_with ((with_reducible refine (compareString_any _ _ _).mono ?_); rintro e w' ⟨rfl, rfl⟩)
  go_ret
  exact ⟨rfl, rfl⟩
end Go.Proofs.Ytnijkogpdahgnaa
