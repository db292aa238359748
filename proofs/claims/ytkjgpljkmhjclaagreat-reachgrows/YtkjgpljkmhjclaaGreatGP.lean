/- slices.IndexFunc and slices.ContainsFunc over blobs, whatever the closure. -/
import Derived.Test.YtkjgpljkmhjclaaGreatQShg
import Derived.Test.YtkjgpljkmhjclaaGreatRows
import Derived.Test.YtkjgpljkmhjclaaGreatGN
import Derived.Lib.Hide
import Derived.IntWalk
namespace Go.Proofs.YtkjgpljkmhjclaaGreat
open Go.RowKit Go.Shelf
/-- the cells of a list of things that is not empty, one by one -/
theorem KRd.cellsAt {α η : Type} [Inhabited α] [Inhabited η] {K : Kin α η} {w : World} {A : Option Addr} {n c : Nat} {l : List α} (h : KRd K w A n c l) (hn : 0 < n) :
    ∃ (b off : Nat) (hs : List (α × η)), A = some ⟨b, off, none⟩ ∧ hs.map Prod.fst = l ∧ hs.length = n ∧ b < w.heap.size ∧ (∀ j, j < hs.length → ∀ i v, (K.cells hs[j]!.1 hs[j]!.2)[i]? = some v → w.cell? ⟨b, off + j * K.size + i, none⟩ = some v) ∧ ∀ x ∈ hs, K.deep w x.1 x.2 := by
  have hl := h.len
  obtain ⟨hs, rfl, hr, hd⟩ := h
  rw [List.length_map] at hl
  obtain ⟨b, off, rfl, hc⟩ := hr.2.2.2 (by rw [K.all_length, ← hl]; exact Nat.mul_pos hn K.pos)
  have hcell : ∀ j, j < hs.length → ∀ i v, (K.cells hs[j]!.1 hs[j]!.2)[i]? = some v → w.cell? ⟨b, off + j * K.size + i, none⟩ = some v := fun j hj i v hv => by
    have hi : i < K.size := by have := (List.getElem?_eq_some_iff.1 hv).1; rwa [K.len] at this
    rw [Nat.add_assoc]
    refine hc _ _ ?_
    rw [K.all_at hs j hj i hi, ← hv, getElem!_pos hs j hj]
  refine ⟨b, off, hs, rfl, rfl, hl.symm, ?_, hcell, hd⟩
  obtain ⟨v0, hv0⟩ : ∃ v, (K.cells hs[0]!.1 hs[0]!.2)[0]? = some v := ⟨_, List.getElem?_eq_getElem (by rw [K.len]; exact K.pos)⟩
  exact cell_lt (hcell 0 (by omega) 0 v0 hv0)
theorem any_fst {α η : Type} (hs : List (α × η)) (p : α → Bool) : hs.any (fun x => p x.1) = (hs.map Prod.fst).any p := by rw [List.any_map]; rfl
/-- the first place, or -1 -/
def plc {α : Type} (l : List α) (p : α → Bool) : Int := if l.findIdx p < l.length then (l.findIdx p : Int) else -1
theorem idxBy_plc {α η : Type} [Inhabited α] [Inhabited η] (hs : List (α × η)) (p : α → Bool) : Lib.idxBy (fun _ (y : α × η) => p y.1) (hs.take hs.length) default = plc (hs.map Prod.fst) p := by
  have hf : (hs.map Prod.fst).findIdx p = hs.findIdx fun x => p x.1 := by rw [List.findIdx_map]; rfl
  unfold plc
  rw [hf, List.length_map]
  by_cases h : hs.findIdx (fun x => p x.1) < hs.length
  · rw [if_pos h]
    have := Lib.idxBy_hit (fun _ (y : α × η) => p y.1) hs hs.length (hs.findIdx fun x => p x.1) default h (Nat.le_refl _) (by
      rw [getElem!_pos hs _ h]; exact List.findIdx_getElem (xs := hs) (p := fun x => p x.1) (w := h)) (fun j hj => by
      rw [getElem!_pos hs j (by omega)]
      have := List.not_of_lt_findIdx (xs := hs) (p := fun x => p x.1) hj
      simpa using this)
    exact this
  · rw [if_neg h]
    refine Lib.idxBy_miss (fun _ (y : α × η) => p y.1) hs hs.length default (fun j hj => ?_)
    have hle : hs.findIdx (fun x => p x.1) ≤ hs.length := List.findIdx_le_length
    rw [getElem!_pos hs j (by omega)]
    have := List.not_of_lt_findIdx (xs := hs) (p := fun x => p x.1) (i := j) (by omega)
    simpa using this
set_option maxRecDepth 100000 in
set_option maxHeartbeats 400000 in
theorem indexB_none (A : Option Addr) (c : Nat) (f : Value) (w : World) :
    Calls Tryz.prog 49 #[.slice A 0 c, f] w fun e w' => e = .returned (.int .i64 (-1)) ∧ w' = w := by
  go_enter Tryz.func49, Tryz.ntmps49
  go_wp2
  go_loop [5, 8] (fun _ i => i = .int .i64 0) (fun _ _ => 0)
  case atStart => rfl
  case round =>
    subst hrel
    go_wp2
    go_ret
    exact ⟨rfl, rfl⟩
set_option maxRecDepth 100000 in
set_option maxHeartbeats 400000 in
theorem containsB_none (A : Option Addr) (c : Nat) (f : Value) (w : World) :
    Calls Tryz.prog 23 #[.slice A 0 c, f] w fun e w' => e = .returned (.bool false) ∧ w' = w := by
  go_enter Tryz.func23, Tryz.ntmps23
  go_wp2_with fail
  with_reducible refine (indexB_none A c f _).mono ?_
  rintro e w' ⟨rfl, rfl⟩
  go_wp2
  go_ret
  exact ⟨rfl, rfl⟩
/-- a closure that tells of each blob whether p holds -/
def TellsB (w : World) (g : Nat) (lb : Array Value) (p : Bl → Bool) : Prop :=
  PredBelow Tryz.prog g lb (fun x : Bl × Hd => .agg (kBl.cells x.1 x.2).toArray) (fun x => p x.1) w
theorem containsB_any (A : Option Addr) (n c : Nat) (l : List Bl) (w : World) (hr : KRd kBl w A n c l) (p : Bl → Bool) (g : Nat) (lb : Array Value)
    (eg : ∀ args w, (callFunc g args).run Tryz.prog w = .ok (.enter g args) w) (hp : TellsB w g lb p) :
    Calls Tryz.prog 23 #[.slice A n c, .func (.func g) #[] lb] w fun e w' => e = .returned (.bool (l.any p)) ∧ Below w.heap.size w w' := by
  rcases Nat.eq_zero_or_pos n with h0 | h0
  · subst h0
    have hl : l = [] := List.eq_nil_of_length_eq_zero hr.len.symm
    subst hl
    refine (containsB_none A c _ w).mono ?_
    rintro e w' ⟨rfl, rfl⟩
    exact ⟨rfl, Below.refl _ _⟩
  · have hcap := hr.cap
    unfold maxLen at hcap
    obtain ⟨b, off, hs, rfl, rfl, hl, hb, hc, -⟩ := hr.cellsAt h0
    have h := AnyQ.slices_ContainsFunc Tryz.lay_ContainsFunc_Blob 4 Tryz.isAgg36 Tryz.sizeOf36 (fun x : Bl × Hd => kBl.cells x.1 x.2) (fun _ => rfl) (fun x => p x.1) g lb eg b off n c hs w hp (by omega) (by omega) hb hc
    rw [← hl, List.take_length, any_fst] at h
    rw [← hl]
    exact h
theorem indexB_any (A : Option Addr) (n c : Nat) (l : List Bl) (w : World) (hr : KRd kBl w A n c l) (p : Bl → Bool) (g : Nat) (lb : Array Value)
    (eg : ∀ args w, (callFunc g args).run Tryz.prog w = .ok (.enter g args) w) (hp : TellsB w g lb p) :
    Calls Tryz.prog 49 #[.slice A n c, .func (.func g) #[] lb] w fun e w' => e = .returned (.int .i64 (plc l p)) ∧ Below w.heap.size w w' := by
  rcases Nat.eq_zero_or_pos n with h0 | h0
  · subst h0
    have hl : l = [] := List.eq_nil_of_length_eq_zero hr.len.symm
    subst hl
    refine (indexB_none A c _ w).mono ?_
    rintro e w' ⟨rfl, rfl⟩
    exact ⟨rfl, Below.refl _ _⟩
  · have hcap := hr.cap
    unfold maxLen at hcap
    obtain ⟨b, off, hs, rfl, rfl, hl, hb, hc, -⟩ := hr.cellsAt h0
    have h := AnyQ.slices_IndexFunc Tryz.lay_IndexFunc_Blob 4 Tryz.isAgg36 Tryz.sizeOf36 (fun x : Bl × Hd => kBl.cells x.1 x.2) (fun _ => rfl) (fun x => p x.1) g lb eg b off n c hs w hp (by omega) (by omega) hb hc
    rw [← hl, idxBy_plc] at h
    rw [← hl]
    exact h
end Go.Proofs.YtkjgpljkmhjclaaGreat
