/- Numbers as bytes (groups of seven bits) and back, as plain functions on lists. Nothing of the program. -/
import Derived.Test.YtaaeihkbnfcolaaMem
namespace Go.Proofs.Ytaaeihkbnfcolaa
open Go.RowKit
/-- the bytes of a number -/
def enc (n : Nat) : List UInt8 := if h : n < 128 then [UInt8.ofNat n] else UInt8.ofNat (n % 128 + 128) :: enc (n / 128)
termination_by n
decreasing_by omega
theorem enc_small {n : Nat} (h : n < 128) : enc n = [UInt8.ofNat n] := by rw [enc, dif_pos h]
theorem enc_big {n : Nat} (h : ¬ n < 128) : enc n = UInt8.ofNat (n % 128 + 128) :: enc (n / 128) := by rw [enc, dif_neg h]
/-- the number of bytes -/
def val : List UInt8 → Nat
  | [] => 0
  | x :: r => x.toNat % 128 + 128 * val r
/-- how many bytes of 128 and above stand at the beginning -/
def lead : List UInt8 → Nat
  | [] => 0
  | x :: r => if 128 ≤ x.toNat then lead r + 1 else 0
theorem lead_le : ∀ l : List UInt8, lead l ≤ l.length
  | [] => Nat.le_refl _
  | x :: r => by
    have := lead_le r
    unfold lead
    split <;> simp <;> omega
theorem lead_at : ∀ (l : List UInt8) (k : Nat), k < lead l → ∀ h : k < l.length, 128 ≤ l[k].toNat
  | [], _, _, h => absurd h (by simp)
  | x :: r, 0, hk, _ => by
    unfold lead at hk
    split at hk
    · assumption
    · omega
  | x :: r, k + 1, hk, h => by
    unfold lead at hk
    split at hk
    · exact lead_at r k (by omega) (by simpa using h)
    · omega
theorem lead_stop : ∀ (l : List UInt8) (h : lead l < l.length), l[lead l].toNat < 128
  | [], h => absurd h (by simp)
  | x :: r, h => by
    by_cases hx : 128 ≤ x.toNat
    · have e : lead (x :: r) = lead r + 1 := by rw [lead, if_pos hx]
      have h' : lead r < r.length := by rw [e] at h; simpa using h
      have := lead_stop r h'
      have g : (x :: r)[lead (x :: r)]? = r[lead r]? := by rw [e, List.getElem?_cons_succ]
      rw [List.getElem?_eq_getElem h, List.getElem?_eq_getElem h'] at g
      rw [Option.some.inj g]; exact this
    · have e : lead (x :: r) = 0 := by rw [lead, if_neg hx]
      have g : (x :: r)[lead (x :: r)]? = some x := by rw [e]; rfl
      rw [List.getElem?_eq_getElem h] at g
      rw [Option.some.inj g]; omega
/-- at a place below 128 the beginning ends -/
theorem lead_eq {l : List UInt8} {k : Nat} (hk : k ≤ lead l) (h : k < l.length) (hx : l[k].toNat < 128) : lead l = k := by
  rcases Nat.lt_or_ge k (lead l) with h1 | h1
  · have := lead_at l k h1 h; omega
  · omega
theorem lead_more {l : List UInt8} {k : Nat} (hk : k ≤ lead l) (h : k < l.length) (hx : 128 ≤ l[k].toNat) : k + 1 ≤ lead l := by
  rcases Nat.lt_or_ge k (lead l) with h1 | h1
  · exact h1
  · have e : lead l = k := by omega
    subst e
    have := lead_stop l h; omega
theorem val_lt : ∀ l : List UInt8, val l < 128 ^ l.length
  | [] => by simp [val]
  | x :: r => by
    have := val_lt r
    rw [val, List.length_cons, Nat.pow_succ]
    omega
theorem val_drop {l : List UInt8} {j : Nat} (h : j < l.length) : val (l.drop j) = l[j].toNat % 128 + 128 * val (l.drop (j + 1)) := by
  rw [List.drop_eq_getElem_cons h, val]
theorem lead_enc (n : Nat) (r : List UInt8) : lead (enc n ++ r) + 1 = (enc n).length := by
  induction n using Nat.strongRecOn with
  | _ n ih =>
    by_cases h : n < 128
    · rw [enc_small h, List.singleton_append, lead, if_neg (by rw [UInt8.toNat_ofNat']; omega)]; rfl
    · rw [enc_big h, List.cons_append, lead, if_pos (by rw [UInt8.toNat_ofNat']; omega), ih (n / 128) (by omega)]; rfl
theorem val_enc (n : Nat) : val (enc n) = n := by
  induction n using Nat.strongRecOn with
  | _ n ih =>
    by_cases h : n < 128
    · rw [enc_small h, val, val, UInt8.toNat_ofNat']; omega
    · rw [enc_big h, val, ih (n / 128) (by omega), UInt8.toNat_ofNat']; omega
theorem enc_pos (n : Nat) : 1 ≤ (enc n).length := by
  by_cases h : n < 128
  · rw [enc_small h]; simp
  · rw [enc_big h]; simp
theorem enc_len : ∀ (k n : Nat), n < 128 ^ (k + 1) → (enc n).length ≤ k + 1
  | 0, n, h => by rw [enc_small (by simpa using h)]; simp
  | k + 1, n, h => by
    by_cases hn : n < 128
    · rw [enc_small hn]; simp
    · rw [enc_big hn, List.length_cons]
      have := enc_len k (n / 128) (by rw [Nat.pow_succ] at h; omega)
      omega
theorem enc_len5 {n : Nat} (h : n < 4294967296) : (enc n).length ≤ 5 := enc_len 4 n (Nat.lt_of_lt_of_le h (by decide))
theorem enc_mono : ∀ (n m : Nat), n ≤ m → (enc n).length ≤ (enc m).length := by
  intro n
  induction n using Nat.strongRecOn with
  | _ n ih =>
    intro m hm
    by_cases h : n < 128
    · rw [enc_small h]; exact enc_pos m
    · rw [enc_big h, enc_big (n := m) (by omega), List.length_cons, List.length_cons]
      have := ih (n / 128) (by omega) (m / 128) (Nat.div_le_div_right hm)
      omega
theorem ofNat_mod {x : UInt8} (h : 128 ≤ x.toNat) : UInt8.ofNat (x.toNat % 128 + 128) = x := by
  have := x.toNat_lt
  have e : x.toNat % 128 + 128 = x.toNat := by omega
  rw [e, UInt8.ofNat_toNat]
/-- bytes up to the first below 128 are a number's own if they are one byte, or the last is not zero -/
theorem enc_val : ∀ (l : List UInt8) (h : lead l < l.length), enc (val (l.take (lead l + 1))) = l.take (lead l + 1) ↔ (lead l = 0 ∨ l[lead l].toNat ≠ 0)
  | [], h => absurd h (by simp)
  | x :: r, h => by
    by_cases hx : 128 ≤ x.toNat
    · have e : lead (x :: r) = lead r + 1 := by rw [lead, if_pos hx]
      have h' : lead r < r.length := by rw [e] at h; simpa using h
      have ih := enc_val r h'
      have hs := lead_stop r h'
      have g : (x :: r)[lead (x :: r)]? = r[lead r]? := by rw [e, List.getElem?_cons_succ]
      rw [List.getElem?_eq_getElem h, List.getElem?_eq_getElem h'] at g
      rw [Option.some.inj g, e, List.take_succ_cons, val]
      have hlast : ∀ (t : List UInt8) (k : Nat), (hk : k < t.length) → val (t.take (k + 1)) = 0 → t[k].toNat % 128 = 0 := by
        intro t
        induction t with
        | nil => intro k hk; simp at hk
        | cons y t iht =>
          intro k hk hv
          cases k with
          | zero => simp [val] at hv; simp; omega
          | succ k =>
            rw [List.take_succ_cons, val] at hv
            have := iht k (by simpa using hk) (by omega)
            simpa using this
      by_cases hv : val (r.take (lead r + 1)) = 0
      · have hz := hlast r (lead r) h' hv
        rw [hv, enc_small (by omega)]
        constructor
        · intro q
          have := congrArg List.length q
          simp only [List.length_cons, List.length_nil, List.length_take] at this
          omega
        · intro q
          omega
      · rw [enc_big (by omega)]
        have e1 : (x.toNat % 128 + 128 * val (r.take (lead r + 1))) % 128 = x.toNat % 128 := by omega
        have e2 : (x.toNat % 128 + 128 * val (r.take (lead r + 1))) / 128 = val (r.take (lead r + 1)) := by omega
        rw [e1, e2, ofNat_mod hx, List.cons.injEq, ih]
        constructor
        · rintro ⟨_, q | q⟩
          · right
            intro hz
            apply hv
            have : r.take (lead r + 1) = [r[lead r]] := by
              obtain ⟨y, s, rfl⟩ : ∃ y s, r = y :: s := by cases r; simp at h'; exact ⟨_, _, rfl⟩
              have g2 : (y :: s)[lead (y :: s)]? = some y := by rw [q]; rfl
              rw [List.getElem?_eq_getElem h'] at g2
              rw [Option.some.inj g2, q]; rfl
            rw [this, val, val, hz]
          · exact .inr q
        · rintro (q | q)
          · omega
          · exact ⟨rfl, .inr q⟩
    · have e : lead (x :: r) = 0 := by rw [lead, if_neg hx]
      constructor
      · intro _; exact .inl e
      · intro _
        rw [e, List.take_succ_cons, List.take_zero, val, val, enc_small (by omega)]
        have : x.toNat % 128 + 128 * 0 = x.toNat := by omega
        rw [this, UInt8.ofNat_toNat]
theorem take_enc (n : Nat) (r : List UInt8) : (enc n ++ r).take (lead (enc n ++ r) + 1) = enc n := by
  rw [lead_enc, List.take_left' rfl]
theorem drop_enc (n : Nat) (r : List UInt8) : (enc n ++ r).drop (lead (enc n ++ r) + 1) = r := by
  rw [lead_enc, List.drop_left' rfl]
/-- what reading a number tells: the error, the number, how many bytes it took -/
def rErr (l : List UInt8) : Int :=
  if 5 ≤ lead l then 3 else if lead l = l.length then 8
  else if 4294967295 < val (l.take (lead l + 1)) ∨ enc (val (l.take (lead l + 1))) ≠ l.take (lead l + 1) then 3 else 0
def rVal (l : List UInt8) : Nat := if rErr l = 0 then val (l.take (lead l + 1)) else 0
def rLen (l : List UInt8) : Nat := if rErr l = 0 then lead l + 1 else 0
def rRest (l : List UInt8) : List UInt8 := if rErr l = 0 then l.drop (lead l + 1) else []
theorem rErr_ok {l : List UInt8} (h : rErr l = 0) : lead l < 5 ∧ lead l < l.length ∧ val (l.take (lead l + 1)) ≤ 4294967295 ∧ enc (val (l.take (lead l + 1))) = l.take (lead l + 1) := by
  unfold rErr at h
  have := lead_le l
  split at h
  · omega
  · split at h
    · omega
    · split at h
      · omega
      · rename_i h1 h2 h3
        refine ⟨by omega, by omega, ?_, ?_⟩
        · exact Nat.le_of_not_lt fun q => h3 (.inl q)
        · exact Classical.byContradiction fun q => h3 (.inr q)
theorem read_long {l : List UInt8} (h : 5 ≤ lead l) : rErr l = 3 ∧ rVal l = 0 ∧ rLen l = 0 ∧ rRest l = [] := by
  have e : rErr l = 3 := if_pos h
  unfold rVal rLen rRest; rw [e]; exact ⟨rfl, if_neg (by decide), if_neg (by decide), if_neg (by decide)⟩
theorem read_short {l : List UInt8} (h : lead l < 5) (h2 : lead l = l.length) : rErr l = 8 ∧ rVal l = 0 ∧ rLen l = 0 ∧ rRest l = [] := by
  have e : rErr l = 8 := by unfold rErr; rw [if_neg (by omega), if_pos h2]
  unfold rVal rLen rRest; rw [e]; exact ⟨rfl, if_neg (by decide), if_neg (by decide), if_neg (by decide)⟩
theorem read_form {l : List UInt8} (h : lead l < 5) (h2 : lead l < l.length) (h3 : 4294967295 < val (l.take (lead l + 1)) ∨ enc (val (l.take (lead l + 1))) ≠ l.take (lead l + 1)) : rErr l = 3 ∧ rVal l = 0 ∧ rLen l = 0 ∧ rRest l = [] := by
  have e : rErr l = 3 := by unfold rErr; rw [if_neg (by omega), if_neg (by omega), if_pos h3]
  unfold rVal rLen rRest; rw [e]; exact ⟨rfl, if_neg (by decide), if_neg (by decide), if_neg (by decide)⟩
theorem read_ok {l : List UInt8} (h : lead l < 5) (h2 : lead l < l.length) (h3 : val (l.take (lead l + 1)) ≤ 4294967295) (h4 : enc (val (l.take (lead l + 1))) = l.take (lead l + 1)) :
    rErr l = 0 ∧ rVal l = val (l.take (lead l + 1)) ∧ rLen l = lead l + 1 ∧ rRest l = l.drop (lead l + 1) := by
  have e : rErr l = 0 := by
    unfold rErr; rw [if_neg (by omega), if_neg (by omega), if_neg]
    rintro (q | q)
    · omega
    · exact q h4
  unfold rVal rLen rRest; rw [e]; exact ⟨rfl, rfl, rfl, rfl⟩
theorem read_enc {n : Nat} (h : n < 4294967296) (r : List UInt8) : rErr (enc n ++ r) = 0 ∧ rVal (enc n ++ r) = n ∧ rLen (enc n ++ r) = (enc n).length ∧ rRest (enc n ++ r) = r := by
  have h1 := lead_enc n r
  have h2 := enc_len5 h
  have h3 := enc_pos n
  have ht := take_enc n r
  have := read_ok (l := enc n ++ r) (by omega) (by rw [List.length_append]; omega) (by rw [ht, val_enc]; omega) (by rw [ht, val_enc])
  rw [ht, val_enc, drop_enc, h1] at this
  exact this
theorem rLen_le (l : List UInt8) : rLen l ≤ l.length := by
  unfold rLen
  split
  · rename_i h; have := (rErr_ok h).2.1; omega
  · omega
theorem rVal_lt (l : List UInt8) : rVal l < 4294967296 := by
  unfold rVal
  split
  · rename_i h; have := (rErr_ok h).2.2.1; omega
  · omega
theorem rRest_eq {l : List UInt8} (h : rErr l = 0) : rRest l = l.drop (rLen l) := by
  unfold rRest rLen; rw [if_pos h, if_pos h]
/-- no beginning of a number's bytes is one -/
theorem lead_take {n k : Nat} (h : k < (enc n).length) : lead ((enc n).take k) = k := by
  have h1 := lead_enc n []
  rw [List.append_nil] at h1
  have hall : ∀ (l : List UInt8), (∀ x ∈ l, 128 ≤ x.toNat) → lead l = l.length := by
    intro l
    induction l with
    | nil => intro _; rfl
    | cons x r ih => intro q; rw [lead, if_pos (q x (by simp)), ih (fun y hy => q y (by simp [hy]))]; rfl
  rw [hall _ fun x hx => ?_]
  · rw [List.length_take]; omega
  · obtain ⟨j, hj, rfl⟩ := List.mem_iff_getElem.1 hx
    rw [List.length_take] at hj
    rw [List.getElem_take]
    exact lead_at _ j (by omega) _
theorem read_cut {n k : Nat} (hn : n < 4294967296) (h : k < (enc n).length) : rErr ((enc n).take k) = 8 := by
  have h1 := lead_take h
  have h2 := enc_len5 hn
  exact (read_short (by omega) (by rw [h1, List.length_take]; omega)).1
end Go.Proofs.Ytaaeihkbnfcolaa
