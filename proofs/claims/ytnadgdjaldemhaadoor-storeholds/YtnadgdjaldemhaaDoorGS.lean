/- slices.IndexFunc over entries, whatever the closure. -/
import Derived.Test.YtnadgdjaldemhaaDoorGP
namespace Go.Proofs.YtnadgdjaldemhaaDoor
open Go.RowKit Go.Shelf
set_option maxRecDepth 100000 in
set_option maxHeartbeats 400000 in
theorem indexE_none (A : Option Addr) (c : Nat) (f : Value) (w : World) :
    Calls Tryd.prog 82 #[.slice A 0 c, f] w fun e w' => e = .returned (.int .i64 (-1)) ∧ w' = w := by
  go_enter Tryd.func82, Tryd.ntmps82
  go_wp2
  go_loop [5, 8] (fun _ i => i = .int .i64 0) (fun _ _ => 0)
  case atStart => rfl
  case round =>
    subst hrel
    go_wp2
    go_ret
    exact ⟨rfl, rfl⟩
/-- a closure that tells of each entry whether p holds -/
def TellsE (w : World) (g : Nat) (lb : Array Value) (p : En → Bool) : Prop :=
  PredBelow Tryd.prog g lb (fun x : En × Hd => .agg (kEn.cells x.1 x.2).toArray) (fun x => p x.1) w
theorem indexE_any (A : Option Addr) (n c : Nat) (l : List En) (w : World) (hr : KRd kEn w A n c l) (p : En → Bool) (g : Nat) (lb : Array Value)
    (eg : ∀ args w, (callFunc g args).run Tryd.prog w = .ok (.enter g args) w) (hp : TellsE w g lb p) :
    Calls Tryd.prog 82 #[.slice A n c, .func (.func g) #[] lb] w fun e w' => e = .returned (.int .i64 (plc l p)) ∧ Below w.heap.size w w' := by
  rcases Nat.eq_zero_or_pos n with h0 | h0
  · subst h0
    have hl : l = [] := List.eq_nil_of_length_eq_zero hr.len.symm
    subst hl
    refine (indexE_none A c _ w).mono ?_
    rintro e w' ⟨rfl, rfl⟩
    exact ⟨rfl, Below.refl _ _⟩
  · have hcap := hr.cap
    unfold maxLen at hcap
    obtain ⟨b, off, hs, rfl, rfl, hl, hb, hc, -⟩ := hr.cellsAt h0
    have h := AnyQ.slices_IndexFunc Tryd.lay_IndexFunc_Entry 4 Tryd.isAgg55 Tryd.sizeOf55 (fun x : En × Hd => kEn.cells x.1 x.2) (fun _ => rfl) (fun x => p x.1) g lb eg b off n c hs w hp (by omega) (by omega) hb hc
    rw [← hl, idxBy_plc] at h
    rw [← hl]
    exact h
end Go.Proofs.YtnadgdjaldemhaaDoor
