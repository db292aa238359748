/- Words and bytes: what the reference's functions return. -/
import Derived.Test.YtjdkifljlbpmdaaW1x
import Derived.Test.YtjdkifljlbpmdaaApp
namespace Go.Proofs.Ytjdkifljlbpmdaa
open Go.RowKit
/-- the words so far, behind k bytes: the reference's loop -/
def wst (l : List UInt8) : Nat → List (BitVec 32)
  | 0 => []
  | k + 1 =>
    let s := if k % 4 = 0 then wst l k ++ [0#32] else wst l k
    s.set (k / 4) ((s.getD (k / 4) 0#32) <<< 8 + w8 (l.getD k 0))
theorem wst_length (l : List UInt8) : ∀ k, (wst l k).length = (k + 3) / 4
  | 0 => rfl
  | k + 1 => by
    rw [wst]
    simp only [List.length_set]
    split
    · rw [List.length_append, wst_length l k]; simp; omega
    · rw [wst_length l k]; omega
theorem shl8_or (x : BitVec 32) (d : UInt8) : x <<< 8 + w8 d = x <<< 8 ||| w8 d := by
  apply BitVec.add_eq_or_of_and_eq_zero
  apply BitVec.eq_of_getLsbD_eq
  intro i hi
  simp only [BitVec.getLsbD_and, BitVec.getLsbD_shiftLeft, BitVec.getLsbD_zero]
  by_cases h : i < 8
  · simp [h]
  · have : (w8 d).getLsbD i = false := by
      unfold w8
      rw [BitVec.getLsbD_ofNat]
      have hd := d.toNat_lt
      have : d.toNat.testBit i = false := Nat.testBit_lt_two_pow (Nat.lt_of_lt_of_le hd (Nat.pow_le_pow_right (by omega) (by omega) : 2 ^ 8 ≤ 2 ^ i))
      simp [this]
    simp [this]
theorem word4_add (a b c d : UInt8) : (((0#32 <<< 8 + w8 a) <<< 8 + w8 b) <<< 8 + w8 c) <<< 8 + w8 d = word4 a b c d := by
  rw [shl8_or, shl8_or, shl8_or, shl8_or]
  apply BitVec.eq_of_getLsbD_eq
  intro i hi
  simp only [word4, BitVec.getLsbD_or, BitVec.getLsbD_shiftLeft, BitVec.getLsbD_zero, hi, decide_true, Bool.true_and, Bool.and_false, Bool.false_or]
  have e1 : i - 8 < 32 := by omega
  have e2 : i - 8 - 8 < 32 := by omega
  have e4 : i - 8 - 8 = i - 16 := by omega
  have e3 : i - 16 - 8 = i - 24 := by omega
  simp only [e1, decide_true, Bool.true_and, e4] at e2 ⊢
  simp only [e2, decide_true, Bool.true_and, e3]
  by_cases h1 : i < 8
  · have a1 : i < 16 := by omega
    have a2 : i < 24 := by omega
    simp [h1, a1, a2]
  · by_cases h2 : i < 16
    · have a2 : i < 24 := by omega
      have a3 : i - 8 < 8 := by omega
      simp [h1, h2, a2, a3]
    · by_cases h3 : i < 24
      · have a3 : ¬ i - 8 < 8 := by omega
        have a4 : i - 16 < 8 := by omega
        simp [h1, h2, h3, a3, a4]
      · have a3 : ¬ i - 8 < 8 := by omega
        have a4 : ¬ i - 16 < 8 := by omega
        simp [h1, h2, h3, a3, a4]
theorem getD_lt {α : Type} {l : List α} {k : Nat} (h : k < l.length) (d : α) : l.getD k d = l[k] := by
  rw [List.getD_eq_getElem?_getD, List.getElem?_eq_getElem h]; rfl
theorem getD_last {α : Type} (W : List α) (x d : α) (j : Nat) (h : W.length = j) : (W ++ [x]).getD j d = x := by
  rw [List.getD_eq_getElem?_getD, List.getElem?_append_right (by omega), h, Nat.sub_self]; rfl
theorem set_last {α : Type} (W : List α) (x y : α) (j : Nat) (h : W.length = j) : (W ++ [x]).set j y = W ++ [y] := by
  rw [List.set_append_right _ _ (by omega), h, Nat.sub_self]; rfl
theorem wst_first {l : List UInt8} {k : Nat} {W : List (BitVec 32)} (hm : k % 4 = 0) (h : wst l k = W) (hW : W.length = k / 4) : wst l (k + 1) = W ++ [0#32 <<< 8 + w8 (l.getD k 0)] := by
  rw [wst, if_pos hm, h]
  show (W ++ [0#32]).set (k / 4) ((W ++ [0#32]).getD (k / 4) 0#32 <<< 8 + w8 (l.getD k 0)) = _
  rw [set_last _ _ _ _ hW, getD_last _ _ _ _ hW]
theorem wst_next {l : List UInt8} {k : Nat} {W : List (BitVec 32)} {x : BitVec 32} (hm : ¬ k % 4 = 0) (h : wst l k = W ++ [x]) (hW : W.length = k / 4) : wst l (k + 1) = W ++ [x <<< 8 + w8 (l.getD k 0)] := by
  rw [wst, if_neg hm, h]
  show (W ++ [x]).set (k / 4) ((W ++ [x]).getD (k / 4) 0#32 <<< 8 + w8 (l.getD k 0)) = _
  rw [set_last _ _ _ _ hW, getD_last _ _ _ _ hW]
theorem words_take : ∀ (j : Nat) (l : List UInt8), 4 * j + 3 < l.length → words (l.take (4 * (j + 1))) = words (l.take (4 * j)) ++ [word4 (l.getD (4 * j) 0) (l.getD (4 * j + 1) 0) (l.getD (4 * j + 2) 0) (l.getD (4 * j + 3) 0)]
  | _, [], h => absurd h (by simp)
  | _, [_], h => absurd h (by simp)
  | _, [_, _], h => absurd h (by simp)
  | _, [_, _, _], h => absurd h (by simp)
  | 0, a :: b :: c :: d :: r, _ => by simp [words]
  | j + 1, a :: b :: c :: d :: r, h => by
    have := words_take j r (by simp at h; omega)
    rw [show 4 * (j + 1 + 1) = 4 * (j + 1) + 4 from by omega, show 4 * (j + 1) + 1 = 4 * j + 1 + 4 from by omega, show 4 * (j + 1) + 2 = 4 * j + 2 + 4 from by omega, show 4 * (j + 1) + 3 = 4 * j + 3 + 4 from by omega]
    simp only [List.take_succ_cons, words, this]
    rw [show 4 * (j + 1) = 4 * j + 4 from by omega]
    simp only [List.take_succ_cons, words, List.cons_append, List.getD_cons_succ]
theorem wst_four (l : List UInt8) (j : Nat) (h : wst l (4 * j) = words (l.take (4 * j))) (hl : 4 * j + 3 < l.length) : wst l (4 * (j + 1)) = words (l.take (4 * (j + 1))) := by
  have hW : (words (l.take (4 * j))).length = j := by rw [words_length, List.length_take]; omega
  have s0 := wst_first (l := l) (k := 4 * j) (by omega) h (by omega)
  have s1 := wst_next (l := l) (k := 4 * j + 1) (by omega) s0 (by omega)
  have s2 := wst_next (l := l) (k := 4 * j + 1 + 1) (by omega) s1 (by omega)
  have s3 := wst_next (l := l) (k := 4 * j + 1 + 1 + 1) (by omega) s2 (by omega)
  rw [word4_add] at s3
  rw [words_take j l hl]
  exact s3
theorem wst_all (l : List UInt8) : ∀ j, 4 * j ≤ l.length → wst l (4 * j) = words (l.take (4 * j))
  | 0, _ => rfl
  | j + 1, h => wst_four l j (wst_all l j (by omega)) (by omega)
theorem wst_end (l : List UInt8) (h : l.length % 4 = 0) : wst l l.length = words l := by
  have := wst_all l (l.length / 4) (by omega)
  rwa [show 4 * (l.length / 4) = l.length from by omega, List.take_length] at this
set_option maxHeartbeats 400000 in
theorem wordsOf_big (A : Option Addr) (n c : Nat) (w : World) (h : 2072 < n) (hn : n ≤ 9223372036854775807) :
    Calls Try.prog 21 #[.slice A n c] w fun e w' => e = .returned (.tuple #[.slice none 0 0, .int .i64 1]) ∧ w = w' := by
  go_enter Try.func21, Try.ntmps21
  go_wp2
  go_ret2
  exact ⟨rfl, rfl⟩
theorem and3 (n : Nat) (h : n < 4294967296) : bits .and .i64 (n : Int) 3 = ((n % 4 : Nat) : Int) := by
  have h2 : n &&& 3 = n % 4 := Nat.and_two_pow_sub_one_eq_mod n 2
  have ho : ∀ a : Nat, a < 9223372036854775808 → (BitVec.ofInt 64 (a : Int)).toNat = a := fun a ha => by
    rw [BitVec.ofInt_natCast, BitVec.toNat_ofNat]; exact Nat.mod_eq_of_lt (by omega)
  show IntKind.i64.wrap ((BitVec.ofInt 64 (n : Int) &&& BitVec.ofInt 64 ((3 : Nat) : Int)).toNat : Int) = _
  rw [BitVec.toNat_and, ho n (by omega), ho 3 (by omega), h2, IntKind.wrap_i64]; omega
set_option maxHeartbeats 400000 in
theorem wordsOf_odd (A : Option Addr) (n c : Nat) (w : World) (h : n ≤ 2072) (hn : n % 4 ≠ 0) :
    Calls Try.prog 21 #[.slice A n c] w fun e w' => e = .returned (.tuple #[.slice none 0 0, .int .i64 3]) ∧ w = w' := by
  have ha := and3 n (by omega)
  have hne : (((n % 4 : Nat) : Int) != 0) = true := by rw [bne_iff_ne]; omega
  go_enter Try.func21, Try.ntmps21
  go_wp2
  all_goals (go_ret2; exact ⟨rfl, rfl⟩)
set_option maxHeartbeats 1000000 in
theorem wordsOf_ok (A : Option Addr) (n c : Nat) (l : List UInt8) (w : World) (hr : Rd w 1 A n c (l.map bv8)) (h : n ≤ 2072) (h4 : n % 4 = 0) :
    Calls Try.prog 21 #[.slice A n c] w fun e w' => ∃ v, e = .returned (.tuple #[v, .int .i64 0]) ∧ w'.ownsRow w.heap.size 22 1 v (n / 4) ((words l).map wv) ∧ Below w.heap.size w w' := by
  obtain rfl := hr.len
  have ha := and3 l.length (by omega)
  rw [h4] at ha
  obtain ⟨i0, hi0, hz0, hz1, hz2⟩ := info_parts u32_info
  have H4 := Lib.hid h4
  have hd : decide (2072 < (l.length : Int)) = false := by simp; omega
  clear h4
  go_enter Try.func21, Try.ntmps21
  go_wp2
  go_loopw [4, 5, 6, 16] (fun v _ _ i wr => ∃ k : Nat, k ≤ l.length ∧ i = .int .i64 k ∧ wr.ownsRow w.heap.size 22 1 v ((k + 3) / 4) ((wst l k).map wv) ∧ Below w.heap.size w wr) (fun _ _ _ i _ => l.length - (intOf i).toNat)
  case atStart => exact ⟨0, by omega, rfl, World.ownsRow_nil _ _ _ _, Below.refl _ _⟩
  case round =>
    obtain ⟨k, hk, rfl, hown, hbel⟩ := hrel
    by_cases hlt : k < l.length
    · obtain ⟨b, off, rfl, hbl, hcell⟩ := hr.addr (by simp; omega)
      have h0 : wr.cell? ⟨b, off + k, none⟩ = some (.int .u8 (y8 (l[k]'(by omega)))) := (hbel.cell (p := ⟨b, off + k, none⟩) hbl).trans (hcell k _ (by rw [List.getElem?_map, List.getElem?_eq_getElem (by omega)]; rfl))
      clear hcell
      by_cases hm : k % 4 = 0
      · have hmb : ((k : Int) % 4 == 0) = true := by rw [beq_iff_eq]; omega
        have hq : ((k : Int) / 4).toNat = k / 4 := by omega
        have hq0 : 0 ≤ (k : Int) / 4 := by omega
        have hw1 : wst l (k + 1) = (wst l k ++ [0#32]).set (k / 4) (0#32 <<< 8 + w8 l[k]) := by
          rw [wst, if_pos hm, List.getD_eq_getElem?_getD, List.getElem?_append_right (by rw [wst_length]; omega), wst_length, show k / 4 - (k + 3) / 4 = 0 from by omega, getD_lt hlt]; rfl
        have hap : (wst l k).map wv ++ [.int .u32 0] = (wst l k ++ [0#32]).map wv := by rw [List.map_append]; rfl
        have hz : ∃ z : BitVec 32, Hid (z = 0#32) := ⟨_, rfl⟩
        obtain ⟨z, hz⟩ := hz
        have Hw := Lib.hid hw1
        have Ha := Lib.hid hap
        clear hw1 hap
        go_wp2_with (at_builtin; refine wpList_append1 rfl (.tmp 24) (.tmp 25) _ rfl Try.underlying30 hi0 hz0 hz1 hz2 rfl (by omega) _ _ _ rfl hown [.int .u32 0] rfl (by simp [Value.oneCell']) rfl (by omega) (by omega) hbel.size ?_; rintro v1 w1 ⟨hown1, hb1, hsz1, hfar1⟩; obtain ⟨g, cap, rfl, hg, hglt⟩ := hown1.form (by omega); have hc1 : w1.cell? ⟨g, k / 4, none⟩ = some (.int .u32 (u z)) := (by rw [hown1.cellAt _ (by omega), List.getElem?_append_right (by rw [List.length_map, wst_length]; omega), List.length_map, wst_length, show k / 4 - (k + 3) / 4 = 0 from by omega, hz.out]; rfl); have hf1 := hown1.frozenAt (k / 4); have hi1 : (k : Int) / 4 < ((((k + 3) / 4 + 1 : Nat)) : Int) := (by omega))
        go_roundw
        case rel =>
          refine ⟨k + 1, by omega, by go_num, ?_, (hbel.trans hb1).setCell (p := ⟨g, k / 4, none⟩) hg _⟩
          have h5 := (hown1.stored (k / 4) (.int .u32 (u (z <<< 8 + w8 l[k])))).1
          rw [Ha.out] at h5
          have h6 : ((wst l k ++ [0#32]).map wv).set (k / 4) (.int .u32 (u (z <<< 8 + w8 l[k]))) = (wst l (k + 1)).map wv := by
            rw [Hw.out, List.map_set, hz.out]; rfl
          rw [h6] at h5
          rwa [show (k + 1 + 3) / 4 = (k + 3) / 4 + 1 from by omega]
        case measure => simp [intOf]; omega
      · have hmb : ((k : Int) % 4 == 0) = false := by rw [beq_eq_false_iff_ne]; omega
        have hq : ((k : Int) / 4).toNat = k / 4 := by omega
        have hq0 : 0 ≤ (k : Int) / 4 := by omega
        have hL := wst_length l k
        have hz : ∃ z : BitVec 32, Hid (z = (wst l k).getD (k / 4) 0#32) := ⟨_, rfl⟩
        obtain ⟨z, hz⟩ := hz
        have hw1 : wst l (k + 1) = (wst l k).set (k / 4) (z <<< 8 + w8 l[k]) := by
          rw [wst, if_neg hm, getD_lt hlt, hz.out]
        obtain ⟨g, cap, rfl, hg, hglt⟩ := hown.form (by omega)
        have hc1 : wr.cell? ⟨g, k / 4, none⟩ = some (.int .u32 (u z)) := by
          rw [hown.cellAt _ (by omega), List.getElem?_map, List.getElem?_eq_getElem (by omega), hz.out, getD_lt (by omega)]; rfl
        have hf1 := hown.frozenAt (k / 4)
        have hi1 : (k : Int) / 4 < ((((k + 3) / 4 : Nat)) : Int) := by omega
        have Hw := Lib.hid hw1
        clear hw1 hL
        go_wp2
        go_roundw
        case rel =>
          refine ⟨k + 1, by omega, by go_num, ?_, hbel.setCell (p := ⟨g, k / 4, none⟩) hg _⟩
          have h5 := (hown.stored (k / 4) (.int .u32 (u (z <<< 8 + w8 l[k])))).1
          have h6 : ((wst l k).map wv).set (k / 4) (.int .u32 (u (z <<< 8 + w8 l[k]))) = (wst l (k + 1)).map wv := by
            rw [Hw.out, List.map_set]; rfl
          rw [h6] at h5
          rwa [show (k + 1 + 3) / 4 = (k + 3) / 4 from by omega]
        case measure => simp [intOf]; omega
    · obtain rfl : k = l.length := by omega
      rw [wst_end l H4.out, show (l.length + 3) / 4 = l.length / 4 from by have := H4.out; omega] at hown
      go_wp2
      go_ret2
      exact ⟨_, rfl, hown, hbel⟩
end Go.Proofs.Ytjdkifljlbpmdaa
