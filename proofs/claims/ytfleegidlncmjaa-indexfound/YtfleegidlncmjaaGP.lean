/- Texts that belong together: what the functions of the program and of the statements return. -/
import Derived.Test.YtfleegidlncmjaaRows
import Derived.Test.YtfleegidlncmjaaGA
import Derived.Lib.Hide
import Derived.IntWalk
import Derived.Test.YtfleegidlncmjaaQShg
import Derived.Test.YtfleegidlncmjaaGN
import Derived.Shelf.SlSorted.Search
/- Chapter 7: the program's pin.Check. -/
namespace Go.Proofs.Ytfleegidlncmjaa
open Go.RowKit
/-- what the check of a count answers -/
def Ck (n e : Int) : Prop := (n < 0 ∧ e = 4) ∨ (5 < n ∧ e = 4) ∨ (0 ≤ n ∧ n ≤ 5 ∧ e = 0)
theorem ck_some (n : Int) : ∃ e, Ck n e := by
  unfold Ck
  by_cases h : n < 0
  · exact ⟨4, .inl ⟨h, rfl⟩⟩
  · by_cases h5 : 5 < n
    · exact ⟨4, .inr (.inl ⟨h5, rfl⟩)⟩
    · exact ⟨0, .inr (.inr ⟨by omega, by omega, rfl⟩)⟩
set_option maxRecDepth 100000 in
set_option maxHeartbeats 400000 in
theorem pcheck_at (n e : Int) (w : World) (h : Ck n e) : Calls Try.prog 64 #[.int .i64 n] w fun x w' => x = .returned (.int .i64 e) ∧ w = w' := by
  rcases h with ⟨h, rfl⟩ | ⟨h, rfl⟩ | ⟨h, h5, rfl⟩
  · go_enter Try.func64, Try.ntmps64
    go_wp2
    go_ret
    exact ⟨rfl, rfl⟩
  · have h0 : ¬ n < 0 := by omega
    go_enter Try.func64, Try.ntmps64
    go_wp2
    go_ret
    exact ⟨rfl, rfl⟩
  · have h0 : ¬ n < 0 := by omega
    have h6 : ¬ 5 < n := by omega
    go_enter Try.func64, Try.ntmps64
    go_wp2
    go_ret
    exact ⟨rfl, rfl⟩
end Go.Proofs.Ytfleegidlncmjaa
/- slices.IndexFunc and slices.ContainsFunc over blobs, whatever the closure. -/
namespace Go.Proofs.Ytfleegidlncmjaa
open Go.RowKit Go.Shelf
/-- the cells of a list of things that is not empty, one by one -/
theorem KRd.cellsAt {α η : Type} [Inhabited α] [Inhabited η] {K : Kin α η} {w : World} {A : Option Addr} {n c : Nat} {l : List α} (h : KRd K w A n c l) (hn : 0 < n) :
    ∃ (b off : Nat) (hs : List (α × η)), A = some ⟨b, off, none⟩ ∧ hs.map Prod.fst = l ∧ hs.length = n ∧ b < w.heap.size ∧ (∀ j, j < hs.length → ∀ i v, (K.cells hs[j]!.1 hs[j]!.2)[i]? = some v → w.cell? ⟨b, off + j * K.size + i, none⟩ = some v) ∧ ∀ x ∈ hs, K.deep w x.1 x.2 := by
  have hl := h.len
  obtain ⟨hs, rfl, hr, hd⟩ := h
  rw [List.length_map] at hl
  obtain ⟨b, off, rfl, hc⟩ := hr.2.2.2 (by rw [K.all_length, ← hl]; exact Nat.mul_pos hn K.pos)
  have hcell : ∀ j, j < hs.length → ∀ i v, (K.cells hs[j]!.1 hs[j]!.2)[i]? = some v → w.cell? ⟨b, off + j * K.size + i, none⟩ = some v := fun j hj i v hv => by
    have hi : i < K.size := by have := (List.getElem?_eq_some_iff.1 hv).1; rwa [K.len] at this
    rw [Nat.add_assoc]
    refine hc _ _ ?_
    rw [K.all_at hs j hj i hi, ← hv, getElem!_pos hs j hj]
  refine ⟨b, off, hs, rfl, rfl, hl.symm, ?_, hcell, hd⟩
  obtain ⟨v0, hv0⟩ : ∃ v, (K.cells hs[0]!.1 hs[0]!.2)[0]? = some v := ⟨_, List.getElem?_eq_getElem (by rw [K.len]; exact K.pos)⟩
  exact cell_lt (hcell 0 (by omega) 0 v0 hv0)
theorem any_fst {α η : Type} (hs : List (α × η)) (p : α → Bool) : hs.any (fun x => p x.1) = (hs.map Prod.fst).any p := by rw [List.any_map]; rfl
/-- the first place, or -1 -/
def plc {α : Type} (l : List α) (p : α → Bool) : Int := if l.findIdx p < l.length then (l.findIdx p : Int) else -1
theorem idxBy_plc {α η : Type} [Inhabited α] [Inhabited η] (hs : List (α × η)) (p : α → Bool) : Lib.idxBy (fun _ (y : α × η) => p y.1) (hs.take hs.length) default = plc (hs.map Prod.fst) p := by
  have hf : (hs.map Prod.fst).findIdx p = hs.findIdx fun x => p x.1 := by rw [List.findIdx_map]; rfl
  unfold plc
  rw [hf, List.length_map]
  by_cases h : hs.findIdx (fun x => p x.1) < hs.length
  · rw [if_pos h]
    have := Lib.idxBy_hit (fun _ (y : α × η) => p y.1) hs hs.length (hs.findIdx fun x => p x.1) default h (Nat.le_refl _) (by
      rw [getElem!_pos hs _ h]; exact List.findIdx_getElem (xs := hs) (p := fun x => p x.1) (w := h)) (fun j hj => by
      rw [getElem!_pos hs j (by omega)]
      have := List.not_of_lt_findIdx (xs := hs) (p := fun x => p x.1) hj
      simpa using this)
    exact this
  · rw [if_neg h]
    refine Lib.idxBy_miss (fun _ (y : α × η) => p y.1) hs hs.length default (fun j hj => ?_)
    have hle : hs.findIdx (fun x => p x.1) ≤ hs.length := List.findIdx_le_length
    rw [getElem!_pos hs j (by omega)]
    have := List.not_of_lt_findIdx (xs := hs) (p := fun x => p x.1) (i := j) (by omega)
    simpa using this
set_option maxRecDepth 100000 in
set_option maxHeartbeats 400000 in
theorem indexB_none (A : Option Addr) (c : Nat) (f : Value) (w : World) :
    Calls Try.prog 72 #[.slice A 0 c, f] w fun e w' => e = .returned (.int .i64 (-1)) ∧ w' = w := by
  go_enter Try.func72, Try.ntmps72
  go_wp2
  go_loop [5, 8] (fun _ i => i = .int .i64 0) (fun _ _ => 0)
  case atStart => rfl
  case round =>
    subst hrel
    go_wp2
    go_ret
    exact ⟨rfl, rfl⟩
set_option maxRecDepth 100000 in
set_option maxHeartbeats 400000 in
theorem containsB_none (A : Option Addr) (c : Nat) (f : Value) (w : World) :
    Calls Try.prog 49 #[.slice A 0 c, f] w fun e w' => e = .returned (.bool false) ∧ w' = w := by
  go_enter Try.func49, Try.ntmps49
  go_wp2_with fail
  with_reducible refine (indexB_none A c f _).mono ?_
  rintro e w' ⟨rfl, rfl⟩
  go_wp2
  go_ret
  exact ⟨rfl, rfl⟩
/-- a closure that tells of each blob whether p holds -/
def TellsB (w : World) (g : Nat) (lb : Array Value) (p : Bl → Bool) : Prop :=
  PredBelow Try.prog g lb (fun x : Bl × Hd => .agg (kBl.cells x.1 x.2).toArray) (fun x => p x.1) w
theorem containsB_any (A : Option Addr) (n c : Nat) (l : List Bl) (w : World) (hr : KRd kBl w A n c l) (p : Bl → Bool) (g : Nat) (lb : Array Value)
    (eg : ∀ args w, (callFunc g args).run Try.prog w = .ok (.enter g args) w) (hp : TellsB w g lb p) :
    Calls Try.prog 49 #[.slice A n c, .func (.func g) #[] lb] w fun e w' => e = .returned (.bool (l.any p)) ∧ Below w.heap.size w w' := by
  rcases Nat.eq_zero_or_pos n with h0 | h0
  · subst h0
    have hl : l = [] := List.eq_nil_of_length_eq_zero hr.len.symm
    subst hl
    refine (containsB_none A c _ w).mono ?_
    rintro e w' ⟨rfl, rfl⟩
    exact ⟨rfl, Below.refl _ _⟩
  · have hcap := hr.cap
    unfold maxLen at hcap
    obtain ⟨b, off, hs, rfl, rfl, hl, hb, hc, -⟩ := hr.cellsAt h0
    have h := AnyQ.slices_ContainsFunc Try.lay_ContainsFunc_Blob 4 Try.isAgg75 Try.sizeOf75 (fun x : Bl × Hd => kBl.cells x.1 x.2) (fun _ => rfl) (fun x => p x.1) g lb eg b off n c hs w hp (by omega) (by omega) hb hc
    rw [← hl, List.take_length, any_fst] at h
    rw [← hl]
    exact h
theorem indexB_any (A : Option Addr) (n c : Nat) (l : List Bl) (w : World) (hr : KRd kBl w A n c l) (p : Bl → Bool) (g : Nat) (lb : Array Value)
    (eg : ∀ args w, (callFunc g args).run Try.prog w = .ok (.enter g args) w) (hp : TellsB w g lb p) :
    Calls Try.prog 72 #[.slice A n c, .func (.func g) #[] lb] w fun e w' => e = .returned (.int .i64 (plc l p)) ∧ Below w.heap.size w w' := by
  rcases Nat.eq_zero_or_pos n with h0 | h0
  · subst h0
    have hl : l = [] := List.eq_nil_of_length_eq_zero hr.len.symm
    subst hl
    refine (indexB_none A c _ w).mono ?_
    rintro e w' ⟨rfl, rfl⟩
    exact ⟨rfl, Below.refl _ _⟩
  · have hcap := hr.cap
    unfold maxLen at hcap
    obtain ⟨b, off, hs, rfl, rfl, hl, hb, hc, -⟩ := hr.cellsAt h0
    have h := AnyQ.slices_IndexFunc Try.lay_IndexFunc_Blob 4 Try.isAgg75 Try.sizeOf75 (fun x : Bl × Hd => kBl.cells x.1 x.2) (fun _ => rfl) (fun x => p x.1) g lb eg b off n c hs w hp (by omega) (by omega) hb hc
    rw [← hl, idxBy_plc] at h
    rw [← hl]
    exact h
end Go.Proofs.Ytfleegidlncmjaa
/- sort.Search, whatever the closure. -/
namespace Go.Proofs.Ytfleegidlncmjaa
open Go.RowKit Go.Shelf
set_option maxRecDepth 100000 in
set_option maxHeartbeats 1000000 in
theorem search_any (n : Nat) (g : Nat) (cb : Array Value) (p : Nat → Bool) (w : World) (eg : ∀ args w, (callFunc g args).run Try.prog w = .ok (.enter g args) w) (hsz : n < 4611686018427387904)
    (hf : ∀ (W : World) (i : Nat), Below w.heap.size w W → i < n → Calls Try.prog g (#[.int .i64 (i : Int)] ++ cb) W fun e w' => e = .returned (.bool (p i)) ∧ Below w.heap.size w w')
    (T : Nat) (hT : T ≤ n) (h1 : ∀ t, t < T → p t = false) (h2 : ∀ t, T ≤ t → t < n → p t = true) :
    Calls Try.prog 67 #[.int .i64 (n : Int), .func (.func g) #[] cb] w fun e w' => e = .returned (.int .i64 (T : Int)) ∧ Below w.heap.size w w' := by
  have HF := Lib.hid hf
  have H1 := Lib.hid h1
  have H2 := Lib.hid h2
  clear hf h1 h2
  go_enter Try.func67, Try.ntmps67
  go_wp2
  go_loopw [5, 6] (fun s5 s6 wr => ∃ (lo hi : Nat), s5 = .int .i64 (lo : Int) ∧ s6 = .int .i64 (hi : Int) ∧ lo ≤ T ∧ T ≤ hi ∧ hi ≤ n ∧ Below w.heap.size w wr) (fun s5 s6 _ => (intOf s6 - intOf s5).toNat)
  case atStart => exact ⟨0, n, rfl, rfl, Nat.zero_le _, hT, Nat.le_refl _, Below.refl _ _⟩
  case round =>
    obtain ⟨lo, hi, rfl, rfl, hlo, hhi, hin, hbel⟩ := hrel
    by_cases hlt : lo < hi
    · have hc := HF.out wr ((lo + hi) / 2) hbel (by omega)
      rw [show (((lo + hi) / 2 : Nat) : Int) = ((lo : Int) + (hi : Int)) / 2 by omega] at hc
      by_cases hm : (lo + hi) / 2 < T
      · rw [H1.out _ hm] at hc
        go_wp2_with (go_at_fn g; refine hc.mono ?_; rintro e w' ⟨rfl, hb'⟩)
        go_roundw
        case rel => exact ⟨(lo + hi) / 2 + 1, hi, by rw [show ((lo : Int) + (hi : Int)) / 2 + 1 = (((lo + hi) / 2 + 1 : Nat) : Int) by omega], rfl, by omega, hhi, hin, hb'⟩
        case measure => simp [intOf] <;> omega
      · rw [H2.out _ (by omega) (by omega)] at hc
        go_wp2_with (go_at_fn g; refine hc.mono ?_; rintro e w' ⟨rfl, hb'⟩)
        go_roundw
        case rel => exact ⟨lo, (lo + hi) / 2, rfl, by rw [show ((lo : Int) + (hi : Int)) / 2 = (((lo + hi) / 2 : Nat) : Int) by omega], hlo, by omega, by omega, hb'⟩
        case measure => simp [intOf] <;> omega
    · obtain rfl : T = lo := by omega
      obtain rfl : hi = T := by omega
      go_wp2
      go_ret
      exact ⟨rfl, hbel⟩
end Go.Proofs.Ytfleegidlncmjaa
