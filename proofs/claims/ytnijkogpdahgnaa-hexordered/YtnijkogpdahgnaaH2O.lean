/- The law HexOrdered: the walk. -/
import Derived.Test.YtnijkogpdahgnaaH2B
import Derived.Deep.RegionWith
namespace Go.Proofs.Ytnijkogpdahgnaa
open Go.RowKit
theorem rd_one (W : World) (x : UInt8) (v : Int) (hv : y8 x = v) : Rd (W.alloc (.cells #[.int .u8 v] 5)) 1 (some ⟨W.heap.size, 0, none⟩) 1 1 ([x].map bv8) := by
  subst hv
  exact blk_rd (Blk.new W 5 [bv8 x]) rfl (by omega)
set_option maxHeartbeats 1000000 in
theorem hexOrdered_walk (A B : Option Addr) (n m c d : Nat) (la lb : List UInt8) (w : World) (ha : Rd w 1 A n c (la.map bv8)) (hb : Rd w 1 B m d (lb.map bv8)) (za : n ≤ 140737488351232) (zb : m ≤ 140737488351232) :
    Calls Try.prog 7 #[.slice A n c, .slice B m d] w fun e w' => e = .returned (.bool true) ∧ Below w.heap.size w w' := by
  have hn := ha.len
  have hm := hb.len
  subst hn
  subst hm
  have hc1 : (⟨#[48, 49]⟩ : ByteArray) = str [48, 49] := rfl
  have h1 : hexT [1] = [48, 49] := by decide +kernel
  have ee : (([48, 49] : List UInt8) == [48, 49]) = true := by decide
  have ec : (Lib.compareBytes (hexT la) (hexT lb) == Lib.compareBytes la lb) = true := by rw [cmp_hexT]; simp
  go_enter Try.func7, Try.ntmps7
  go_wp2_with fail
  with_reducible refine (text_any _ _ _ _ _ ha za).mono ?_
  rintro e w1 ⟨rfl, hw1⟩
  go_wp2_with fail
  with_reducible refine (text_any _ _ _ _ _ (hb.below hw1) zb).mono ?_
  rintro e w2 ⟨rfl, hw2⟩
  have ha2 := (ha.below hw1).below hw2
  have hb2 := (hb.below hw1).below hw2
  have hw := below_step hw1 hw2
  clear ha hb hw1 hw2
  go_wp2_with fail
  go_region_with (first | (go_at_call 9; refine (text_any _ 1 1 [1] _ ?_ (by omega)).mono ?_; exact (rd_one w2 1 1 rfl).drew; rintro e w3 ⟨rfl, hw3⟩; have k1 := run_bytes_str (P := Try.prog) Try.underlying22 Try.underlying5 Try.underlying9 ((ha2.below ((Below.refl w2.heap.size w2).alloc (Nat.le_refl _) _).drew).below hw3); have k2 := run_bytes_str (P := Try.prog) Try.underlying22 Try.underlying5 Try.underlying9 ((hb2.below ((Below.refl w2.heap.size w2).alloc (Nat.le_refl _) _).drew).below hw3)) | (go_at_call 16; refine (compare_any _ _ _).mono ?_; rintro e w' ⟨rfl, rfl⟩))
  all_goals (go_wp2; go_ret; exact ⟨rfl, below_step hw ((((Below.refl w2.heap.size w2).alloc (Nat.le_refl _) _).drew).trans (hw3.mono (by simp)))⟩)
end Go.Proofs.Ytnijkogpdahgnaa
